package lexer_test

import (
	"fmt"
	"math"
	"math/big"
	"math/rand"
	"regexp"
	"slices"
	"strings"
	"sync"
	"testing"
	"unsafe"

	"talus/api"
	"talus/lexer"
	"talus/order"
	"talus/schema"
)

const (
	mostBytes = 1000 // of a query
	mostText  = 64
	mostName  = 16
	nan       = 0x7ff8000000000000
	inf       = 0x7ff0000000000000
	ninf      = -1 << 52
)

func same(t *testing.T, what string, got, want any) {
	t.Helper()
	if a, b := fmt.Sprintf("%+v", got), fmt.Sprintf("%+v", want); a != b {
		t.Errorf("%s: %s, want %s", what, a, b)
	}
}

func word(s string) lexer.Token           { return lexer.Token{Kind: 1, S: s} }
func name(s string) lexer.Token           { return lexer.Token{Kind: 2, S: s} }
func literal(v api.Value) lexer.Token     { return lexer.Token{Kind: 3, Value: v} }
func op(s string) lexer.Token             { return lexer.Token{Kind: 4, S: s} }
func integer(n int) lexer.Token           { return literal(api.Value{Kind: 1, N: n}) }
func float(n int) lexer.Token             { return literal(api.Value{Kind: 2, N: n}) }
func str(s string) lexer.Token            { return literal(api.Value{Kind: 3, S: s}) }
func truth(n int) lexer.Token             { return literal(api.Value{Kind: 4, N: n}) }
func null() lexer.Token                   { return literal(api.Value{}) }
func at(n int, t lexer.Token) lexer.Token { t.At = n; return t }
func end(n int) lexer.Token               { return lexer.Token{Kind: 5, At: n} }
func bits(f float64) int                  { return int(math.Float64bits(f)) }

// answer is all that Lex tells.
type answer struct {
	l  []lexer.Token
	at int
	e  api.Errno
}

func lex(s string) answer {
	l, at, e := lexer.Lex(s)
	return answer{l, at, e}
}

func (a answer) same(b answer) bool {
	return slices.Equal(a.l, b.l) && a.at == b.at && a.e == b.e
}

func right(l ...lexer.Token) answer { return answer{l, 0, 0} }
func wrong(at int) answer           { return answer{nil, at, 11} }

// check holds what Lex tells of s against what it should.
func check(t *testing.T, s string, want answer) {
	t.Helper()
	if got := lex(s); !got.same(want) {
		t.Fatalf("Lex(%q): %+v, want %+v", s, got, want)
	}
}

// A second, plain lexer: what a token looks like is a pattern, tried at the place at which one should begin.

var theWords = strings.Fields("SELECT FROM WHERE GROUP BY HAVING ORDER LIMIT AS AND OR NOT IS NULL TRUE FALSE ASC DESC NAN INF")

var shapes = []struct {
	shape *regexp.Regexp
	make  func(s string) (lexer.Token, bool)
}{
	{regexp.MustCompile(`\A(0f[0-9a-f]{16})(?:[^0-9A-Za-z_]|\z)`), ofBits},
	{regexp.MustCompile(`\A([0-9]+)`), ofDigits},
	{regexp.MustCompile(`\A('(?:[^']|'')*')(?:[^']|\z)`), ofQuotes},
	{regexp.MustCompile(`\A([A-Za-z][0-9A-Za-z_]*)`), ofLetters},
	{regexp.MustCompile(`\A(<>|<=|>=|[-+*/=<>(),])`), func(s string) (lexer.Token, bool) { return op(s), true }},
}

func ofBits(s string) (lexer.Token, bool) {
	n, _ := new(big.Int).SetString(s[2:], 16)
	u := n.Uint64()
	switch sign, exponent, fraction := u>>63, u>>52&0x7ff, u<<12; {
	case exponent == 0x7ff && fraction != 0:
		return float(nan), true
	case exponent == 0x7ff && sign == 1:
		return lexer.Token{}, false
	case exponent == 0 && fraction == 0:
		return float(0), true
	}
	return float(int(u)), true
}

func ofDigits(s string) (lexer.Token, bool) {
	n, _ := new(big.Int).SetString(s, 10)
	return integer(int(n.Int64())), n.IsInt64()
}

func ofQuotes(s string) (lexer.Token, bool) {
	var b []byte
	for i := 1; i < len(s)-1; i++ {
		b = append(b, s[i])
		if s[i] == '\'' {
			i++
		}
	}
	return str(string(b)), len(b) <= mostText
}

func ofLetters(s string) (lexer.Token, bool) {
	switch w := strings.ToUpper(s); {
	case w == "TRUE":
		return truth(1), true
	case w == "FALSE":
		return truth(0), true
	case w == "NULL":
		return null(), true
	case w == "NAN":
		return float(nan), true
	case w == "INF":
		return float(inf), true
	case slices.Contains(theWords, w):
		return word(w), true
	}
	return name(strings.ToLower(s)), len(s) <= mostName
}

// plain is what Lex should tell.
func plain(s string) answer {
	if len(s) > mostBytes {
		return answer{nil, 0, 18}
	}
	var l []lexer.Token
	for i := 0; i < len(s); {
		if strings.IndexByte(" \t\n", s[i]) >= 0 {
			i++
			continue
		}
		x, size := plainToken(s[i:])
		if size == 0 {
			return wrong(i)
		}
		l = append(l, at(i, x))
		i += size
	}
	return right(append(l, end(len(s)))...)
}

func plainToken(s string) (lexer.Token, int) {
	for _, sh := range shapes {
		if m := sh.shape.FindStringSubmatch(s); m != nil {
			x, ok := sh.make(m[1])
			if !ok {
				return lexer.Token{}, 0
			}
			return x, len(m[1])
		}
	}
	return lexer.Token{}, 0
}

// each calls f with all texts of up to n of the parts.
func each(n int, parts []string, f func(s string)) {
	f("")
	var more func(s string, n int)
	more = func(s string, n int) {
		for _, p := range parts {
			f(s + p)
			if n > 1 {
				more(s+p, n-1)
			}
		}
	}
	more("", n)
}

// P17.1

func TestP17_1Examples(t *testing.T) {
	check(t, "a<>'x'", right(at(0, name("a")), at(1, op("<>")), at(3, str("x")), end(6)))
	check(t, "a ? b", wrong(2))
	check(t, "", right(end(0)))
	check(t, "SELECT b, SUM(a) FROM t WHERE x >= -1 OR NOT y IS NULL", right(
		at(0, word("SELECT")), at(7, name("b")), at(8, op(",")), at(10, name("sum")), at(13, op("(")), at(14, name("a")), at(15, op(")")),
		at(17, word("FROM")), at(22, name("t")), at(24, word("WHERE")), at(30, name("x")), at(32, op(">=")), at(35, op("-")), at(36, integer(1)),
		at(38, word("OR")), at(41, word("NOT")), at(45, name("y")), at(47, word("IS")), at(50, null()), end(54)))
}

func TestP17_1Kinds(t *testing.T) {
	same(t, "kinds", fmt.Sprint(lexer.KindWord, lexer.KindName, lexer.KindLiteral, lexer.KindOp, lexer.KindEnd), "1 2 3 4 5")
}

func TestP17_1SmallTexts(t *testing.T) {
	parts := []string{"a", "Z", "0", "9", "_", "'", "<", ">", "=", " ", "\n", ":", "é", "\xff"}
	each(5, parts, func(s string) { check(t, s, plain(s)) })
}

func TestP17_1SmallQuotes(t *testing.T) {
	each(9, []string{"'", "b", " "}, func(s string) { check(t, s, plain(s)) })
	each(4, []string{"'", "''", "'''", "a", "\n", "\xc3", "\xa9", "\u2028", "\ufffd", "0"}, func(s string) { check(t, s, plain(s)) })
}

func TestP17_1SmallPieces(t *testing.T) {
	parts := []string{"or", "DER", "Nu", "ll", "TRUE", "fAlSe", "nan", "inF", "0f", "3ff0000000000000", "fff0000000000000", "0000000000000000", "8", "''", "'x'", "<", "=", "-", ",", "(", "_", " ", "\t"}
	each(3, parts, func(s string) { check(t, s, plain(s)) })
}

// Each byte, and each rune, by itself and behind the beginning of a token of each kind.
func TestP17_1EachByte(t *testing.T) {
	for c := range 256 {
		for d := range 256 {
			b := string([]byte{byte(c), byte(d)})
			for _, s := range []string{b[:1], b, "a" + b, "1" + b, "'" + b, "'" + b + "'", "<" + b, " " + b + " ", "0f3ff000000000000" + b, "0f3ff0000000000000" + b} {
				check(t, s, plain(s))
			}
		}
	}
}

func TestP17_1EachRune(t *testing.T) {
	for r := rune(0x80); r < 0x30000; r++ {
		s := string(r)
		if a := lex(s); !a.same(wrong(0)) {
			t.Fatalf("Lex(%q): %+v", s, a)
		}
		check(t, "a"+s, wrong(1))
		check(t, "1 "+s+"a", wrong(2))
		check(t, "'"+s+"'"+s, wrong(2+len(s)))
		check(t, "'"+s+"'", right(at(0, str(s)), end(2+len(s))))
	}
}

func TestP17_1Blanks(t *testing.T) {
	each(4, []string{" ", "\t", "\n", "a"}, func(s string) { check(t, s, plain(s)) })
	check(t, " \t\n ", right(end(4)))
	check(t, "\n\ta\t \nb ", right(at(2, name("a")), at(6, name("b")), end(8)))
	for _, s := range []string{"\r", "\v", "\f", "\x00", "\u00a0", "\u0085", "\u2028", "\u3000", "\ufeff"} {
		check(t, s, wrong(0))
		check(t, "a "+s+" b", wrong(2))
		check(t, "a"+s+"b", wrong(1))
	}
}

// Ints

func TestP17_1Ints(t *testing.T) {
	for _, s := range []string{"0", "1", "9", "10", "007", "00", "1000", "9223372036854775806", "9223372036854775807", "0009223372036854775807", "999999999999999999", "1000000000000000000"} {
		n, _ := new(big.Int).SetString(s, 10)
		check(t, s, right(at(0, integer(int(n.Int64()))), end(len(s))))
	}
	for _, s := range []string{"9223372036854775808", "9223372036854775809", "9223372036854775810", "09223372036854775808", "9999999999999999999", "10000000000000000000", "18446744073709551615", "18446744073709551616", "18446744073709551617", "36893488147419103233", strings.Repeat("9", 1000)} {
		check(t, s, wrong(0))
		if len(s) < 900 {
			check(t, "a + "+s, wrong(4))
			check(t, s+"?", wrong(0))
		}
	}
	for n := range 1001 {
		check(t, strings.Repeat("0", n), plain(strings.Repeat("0", n)))
	}
	check(t, strings.Repeat("0", 999)+"7", right(at(0, integer(7)), end(1000)))
	check(t, "-9223372036854775808", wrong(1)) // the - is a token of its own
	check(t, "-9223372036854775807", right(at(0, op("-")), at(1, integer(math.MaxInt)), end(20)))
}

func TestP17_1IntsAndWhatFollows(t *testing.T) {
	check(t, "1a", right(at(0, integer(1)), at(1, name("a")), end(2)))
	check(t, "1or2", right(at(0, integer(1)), at(1, name("or2")), end(4)))
	check(t, "1or 2", right(at(0, integer(1)), at(1, word("OR")), at(4, integer(2)), end(5)))
	check(t, "1_", wrong(1))
	check(t, "1_000", wrong(1))
	check(t, "1.5", wrong(1))
	check(t, "0x1f", right(at(0, integer(0)), at(1, name("x1f")), end(4)))
	check(t, "1e5", right(at(0, integer(1)), at(1, name("e5")), end(3)))
	check(t, "+1", right(at(0, op("+")), at(1, integer(1)), end(2)))
	check(t, "٣", wrong(0)) // digits are 0 to 9
	check(t, "1٣", wrong(1))
	check(t, "1'x'", right(at(0, integer(1)), at(1, str("x")), end(4)))
}

func TestP17_1IntsByChance(t *testing.T) {
	r := rand.New(rand.NewSource(17))
	for range 20000 {
		n := new(big.Int).Rand(r, new(big.Int).Lsh(big.NewInt(1), uint(1+r.Intn(66))))
		s := strings.Repeat("0", r.Intn(3)) + n.String()
		check(t, s, plain(s))
	}
}

// Floats

func hexOf(n int) string { return fmt.Sprintf("0f%016x", uint64(n)) }

func TestP17_1Floats(t *testing.T) {
	for _, f := range []float64{0, 1, -1, 0.5, math.Pi, -math.Pi, math.MaxFloat64, -math.MaxFloat64, math.SmallestNonzeroFloat64, -math.SmallestNonzeroFloat64, 0x1p-1022, -0x1p-1022} {
		check(t, hexOf(bits(f)), right(at(0, float(bits(f))), end(18)))
	}
	check(t, "0f3ff0000000000000", right(at(0, float(bits(1))), end(18)))
	check(t, hexOf(inf), right(at(0, float(inf)), end(18)))
	check(t, hexOf(math.MinInt), right(at(0, float(0)), end(18))) // -0 is 0
	for _, n := range []int{nan, nan + 1, nan - 1, inf + 1, math.MaxInt, -1, ninf + 1, -1 << 51, 0x7ff4000000000000} {
		check(t, hexOf(n), right(at(0, float(nan)), end(18)))
	}
	for _, n := range []int{ninf - 1, inf - 1, math.MinInt + 1, 1, 0x0010000000000000, 0x0123456789abcdef, -0x0123456789abcdef} {
		check(t, hexOf(n), plain(hexOf(n)))
		check(t, hexOf(n), right(at(0, float(n)), end(18)))
	}
}

func TestP17_1MinusInfinityIsNone(t *testing.T) {
	check(t, "0ffff0000000000000", wrong(0))
	check(t, "a = 0ffff0000000000000 ", wrong(4))
	check(t, "0ffff0000000000000?", wrong(0))
	check(t, "-INF", right(at(0, op("-")), at(1, float(inf)), end(4)))
	check(t, "-0f7ff0000000000000", right(at(0, op("-")), at(1, float(inf)), end(19)))
	check(t, "0ffff000000000000", right(at(0, integer(0)), at(1, name("ffff000000000000")), end(17)))
}

// All counts of digits, of which 16 are those of a float; the others are an Int and a name, if it is one.
func TestP17_1FloatsLengths(t *testing.T) {
	for n := range 40 {
		for _, c := range []string{"0", "9", "a", "f", "3f", "g", "A", "F", "_"} {
			run := strings.Repeat(c, n)[:n]
			for _, s := range []string{"0f" + run, "0F" + run, "00f" + run, "10f" + run, "0" + run, "f" + run, "0fg" + run, "0x" + run, "0f" + run + "'a'", "0f" + run + " " + run, "0f " + run, "0f-" + run} {
				check(t, s, plain(s))
			}
		}
	}
	check(t, "0f", right(at(0, integer(0)), at(1, name("f")), end(2)))
	check(t, "0f3ff000000000000", right(at(0, integer(0)), at(1, name("f3ff000000000000")), end(17)))
	check(t, "0f3ff00000000000000", wrong(1))
	check(t, "0F3ff0000000000000", wrong(1))
	check(t, "0F3ff000000000000", right(at(0, integer(0)), at(1, name("f3ff000000000000")), end(17)))
	check(t, "00f3ff000000000000", right(at(0, integer(0)), at(2, name("f3ff000000000000")), end(18)))
}

// At each place of a float, and behind it, each byte.
func TestP17_1FloatsBytes(t *testing.T) {
	good := "0f3ff00000abcdef90"
	for i := range len(good) + 1 {
		for c := range 256 {
			b := []byte(good + " ")
			b[i] = byte(c)
			check(t, string(b), plain(string(b)))
			check(t, string(b[:18]), plain(string(b[:18])))
			s := good[:i] + string([]byte{byte(c)}) + good[i:]
			check(t, s, plain(s))
		}
	}
	for _, s := range []string{"a", "Z", "g", "_", "0", "9"} {
		check(t, "0f3ff0000000000000"+s, wrong(1))
	}
	for _, s := range []string{"é", "٣", "\u212a", "\xff", "."} { // neither a letter nor a digit nor _
		check(t, "0f3ff0000000000000"+s, wrong(18))
	}
	check(t, "0f3ff0000000000000'a'", right(at(0, float(bits(1))), at(18, str("a")), end(21)))
	check(t, "0f3ff0000000000000-1", right(at(0, float(bits(1))), at(18, op("-")), at(19, integer(1)), end(20)))
	check(t, "0f3ff0000000000000 1", right(at(0, float(bits(1))), at(19, integer(1)), end(20)))
}

func TestP17_1FloatsByChance(t *testing.T) {
	r := rand.New(rand.NewSource(5))
	for range 50000 {
		n := int(r.Uint64())
		switch r.Intn(3) {
		case 0: // what is not finite, or nearly so
			n = n&^(0x7ff<<52) | (0x7fe+r.Intn(2))<<52
		case 1:
			n = n >> 63 << 52 << r.Intn(12) >> r.Intn(60)
		}
		s := hexOf(n)
		check(t, s, plain(s))
		if got := lex(s); got.e == api.OK && (!order.Good(got.l[0].Value.N) || order.Cmp(got.l[0].Value.N, n) != 0) {
			t.Fatalf("Lex(%q): %+v is not good", s, got)
		}
	}
}

// Texts

func TestP17_1Texts(t *testing.T) {
	check(t, "''", right(at(0, str("")), end(2)))
	check(t, "''''", right(at(0, str("'")), end(4)))
	check(t, "'it''s'", right(at(0, str("it's")), end(7)))
	check(t, "'''a'", right(at(0, str("'a")), end(5)))
	check(t, "'a'''", right(at(0, str("a'")), end(5)))
	check(t, "'a' 'b'", right(at(0, str("a")), at(4, str("b")), end(7)))
	check(t, "'a'\n'b'", right(at(0, str("a")), at(4, str("b")), end(7)))
	check(t, "'a''b'", right(at(0, str("a'b")), end(6)))
	check(t, "''x", right(at(0, str("")), at(2, name("x")), end(3)))
	check(t, "'SELECT -- ? \n'", right(at(0, str("SELECT -- ? \n")), end(15)))
	check(t, "' a '", right(at(0, str(" a ")), end(5)))
	check(t, "'\xff\xc3'", right(at(0, str("\xff\xc3")), end(4)))
	check(t, "'\xc3'\xa9", wrong(3))
	check(t, "'\\'", right(at(0, str("\\")), end(3)))
	check(t, "'\\''", wrong(0))
	check(t, "\"a\"", wrong(0))
	check(t, "’a’", wrong(0))
}

func TestP17_1TextsWithoutEnd(t *testing.T) {
	for _, s := range []string{"'", "'''", "'a", "'a''", "'''''", "'a''b", "'a''b''", "'\n", "'?", "'a\xff"} {
		check(t, s, wrong(0))
		check(t, "x = "+s, wrong(4))
		check(t, "'y' "+s, wrong(4))
		check(t, s+" ", wrong(0))
	}
	check(t, "''x'", wrong(3))
	check(t, "''''' '", right(at(0, str("'' ")), end(7)))
}

func TestP17_1TextsLengths(t *testing.T) {
	for n := range 140 {
		for _, c := range []string{"x", "'", " ", "\n", "\xff", "?"} {
			its := strings.Repeat(c, n)
			s := "'" + strings.ReplaceAll(its, "'", "''") + "'"
			if n > mostText {
				check(t, s, wrong(0))
				check(t, "a "+s+"?", wrong(2))
				continue
			}
			check(t, s, right(at(0, str(its)), end(len(s))))
			check(t, s+"?", wrong(len(s)))
		}
	}
	check(t, "'"+strings.Repeat("é", 32)+"'", right(at(0, str(strings.Repeat("é", 32))), end(66))) // bytes are counted
	check(t, "'"+strings.Repeat("é", 32)+"x'", wrong(0))
	check(t, "'"+strings.Repeat("''é", 21)+"x'", right(at(0, str(strings.Repeat("'é", 21)+"x")), end(87)))
	check(t, "a, '"+strings.Repeat("x", 65)+"', ?", wrong(3))
}

func TestP17_1TextsByChance(t *testing.T) {
	r := rand.New(rand.NewSource(9))
	parts := []string{"''", "''", "'", "a", " ", "\n", "é", "\xff", "0", "?"}
	for range 50000 {
		s := "'"
		for range r.Intn(50) {
			s += parts[r.Intn(len(parts))]
		}
		s += "'"
		check(t, s, plain(s))
	}
}

// Words and names

// sizes calls f with s in letters of any size.
func sizes(s string, f func(string)) {
	for mask := range 1 << len(s) {
		b := []byte(strings.ToLower(s))
		for i := range b {
			if mask>>i&1 == 1 {
				b[i] -= 'a' - 'A'
			}
		}
		f(string(b))
	}
}

func TestP17_1Words(t *testing.T) {
	special := map[string]lexer.Token{"TRUE": truth(1), "FALSE": truth(0), "NULL": null(), "NAN": float(nan), "INF": float(inf)}
	same(t, "words", len(theWords), 20)
	for _, w := range theWords {
		want, ok := special[w]
		if !ok {
			want = word(w)
		}
		sizes(w, func(s string) {
			check(t, s, right(at(0, want), end(len(s))))
			check(t, " "+s+"(", right(at(1, want), at(1+len(s), op("(")), end(2+len(s))))
		})
	}
}

// What is nearly a word is a name.
func TestP17_1NearlyWords(t *testing.T) {
	for _, w := range theWords {
		for _, v := range append([]string{"_", "1", "x", "S"}, theWords...) {
			check(t, w+v, plain(w+v))
			check(t, w+" "+v, plain(w+" "+v))
		}
		check(t, w+"_", right(at(0, name(strings.ToLower(w)+"_")), end(len(w)+1)))
		check(t, "_"+w, wrong(0))
		check(t, "1"+w, plain("1"+w))
		for i := range len(w) {
			for _, s := range []string{w[:i], w[i:], w[:i] + w[i+1:], w[:i] + "_" + w[i:], w[:i] + "X" + w[i+1:]} {
				check(t, s, plain(s))
			}
		}
	}
	for _, s := range []string{"COUNT", "Sum", "min", "TOP_K", "APPROX_DISTINCT", "APPROX_QUANTILE", "ON", "IN", "JOIN", "DISTINCT", "BETWEEN", "UNION"} { // no words
		check(t, s, right(at(0, name(strings.ToLower(s))), end(len(s))))
	}
}

func TestP17_1Names(t *testing.T) {
	for _, s := range []string{"a", "Z", "aB_9", "z9_", "a__", "A1", "true_", "nulls", "infinity"} {
		check(t, s, right(at(0, name(strings.ToLower(s))), end(len(s))))
	}
	for n := 1; n < 60; n++ {
		for _, c := range []string{"x", "X", "_", "7", "xY"} {
			s := "B" + strings.Repeat(c, n)[:n-1]
			if n > mostName {
				check(t, s, wrong(0))
				check(t, "a "+s+" ?", wrong(2))
				continue
			}
			check(t, s, right(at(0, name(strings.ToLower(s))), end(n)))
			check(t, "a "+s+" ?", wrong(n+3))
		}
	}
	check(t, strings.Repeat("a", 1000), wrong(0))
	check(t, "select"+strings.Repeat("t", 11), wrong(0))
	check(t, "a.b", wrong(1))
	check(t, "a$", wrong(1))
	check(t, "é", wrong(0))
	check(t, "aé", wrong(1))
	check(t, "_a", wrong(0))
}

// Letters are a to z alone: in others nothing is a word, though their capitals are.
func TestP17_1OtherLetters(t *testing.T) {
	for _, s := range []string{"ſelect", "Selecſt", "aſ", "iſ", "ıs", "lımıt", "ınf", "dEſc", "havıng", "falſe", "ａｓ", "İs", "İnf"} {
		same(t, "Word "+s, lexer.Word(s), false)
		check(t, s, plain(s))
		same(t, "Lex "+s, lex(s).e, api.ErrSyntax)
	}
	check(t, "aſ", wrong(1))
	check(t, "ſ", wrong(0))
	check(t, "\u212a", wrong(0)) // the sign of kelvins, of which k is the small letter
}

// Operators

func TestP17_1Ops(t *testing.T) {
	ops := strings.Fields("<> <= >= + - * / = < > ( ) ,")
	for _, s := range ops {
		check(t, s, right(at(0, op(s)), end(len(s))))
		check(t, s+"1", right(at(0, op(s)), at(len(s), integer(1)), end(len(s)+1)))
		check(t, "a"+s, right(at(0, name("a")), at(1, op(s)), end(len(s)+1)))
	}
	each(5, strings.Split("+-*/=<>(),", ""), func(s string) { check(t, s, plain(s)) })
	check(t, "<=>", right(at(0, op("<=")), at(2, op(">")), end(3)))
	check(t, "<>=", right(at(0, op("<>")), at(2, op("=")), end(3)))
	check(t, "<<=", right(at(0, op("<")), at(1, op("<=")), end(3)))
	check(t, "><", right(at(0, op(">")), at(1, op("<")), end(2)))
	check(t, "=<", right(at(0, op("=")), at(1, op("<")), end(2)))
	check(t, "< =", right(at(0, op("<")), at(2, op("=")), end(3)))
	check(t, "--1", right(at(0, op("-")), at(1, op("-")), at(2, integer(1)), end(3)))
}

func TestP17_1NoOps(t *testing.T) {
	for _, s := range strings.Split("!\"#$%&.:;?@[\\]^`{|}~\x00\x01\x7f", "") {
		check(t, s, wrong(0))
		check(t, "a"+s+" ", wrong(1))
		check(t, "a <"+s, wrong(3))
	}
	check(t, "_", wrong(0))
	check(t, "!=", wrong(0))
	check(t, "a == b", right(at(0, name("a")), at(2, op("=")), at(3, op("=")), at(5, name("b")), end(6)))
	check(t, "a; b", wrong(1))
	check(t, "a -- b ?", wrong(7)) // no remark begins there
}

// Of several wrong bytes the first one counts.
func TestP17_1FirstWrongByte(t *testing.T) {
	wrongs := []string{"?", "'a", "9223372036854775808", "abcdefghijklmnopq", "0ffff0000000000000", "_", "\xff", "'" + strings.Repeat("x", 65) + "'"}
	for _, a := range wrongs {
		for _, b := range wrongs {
			check(t, "a, "+a+" "+strings.ReplaceAll(b, "'", "\""), wrong(3)) // a ' would end the text ahead
			check(t, "\n"+a+", ?", wrong(1))
		}
	}
}

// ErrText

func TestP17_1TooLong(t *testing.T) {
	tooLong := answer{nil, 0, api.ErrText}
	for _, c := range []string{" ", "a ", "1", "?", "'", "<", "\xff", "é", "a", "_", ", "} {
		for _, n := range []int{998, 999, 1000} {
			s := strings.Repeat(c, n)[:n]
			check(t, s, plain(s))
		}
		for _, n := range []int{1001, 1002, 1024, 5000, 1 << 22} {
			check(t, strings.Repeat(c, n)[:n], tooLong)
		}
	}
	check(t, strings.Repeat(" ", 1000), right(end(1000)))
	check(t, strings.Repeat("é", 501), tooLong) // bytes are counted
	check(t, "?"+strings.Repeat(" ", 1000), tooLong)
	check(t, strings.Repeat(" ", 999)+"a", right(at(999, name("a")), end(1000)))
	check(t, strings.Repeat(" ", 999)+"?", wrong(999))
	l := lex(strings.Repeat(",", 1000)).l
	same(t, "tokens", len(l), 1001)
}

// Word

func TestWord(t *testing.T) {
	for _, w := range theWords {
		sizes(w, func(s string) { same(t, "Word "+s, lexer.Word(s), true) })
		for i := range len(w) + 1 {
			for c := range 256 {
				in := w[:i] + string([]byte{byte(c)}) + w[i:]
				same(t, fmt.Sprintf("Word(%q)", in), lexer.Word(in), slices.Contains(theWords, ascii(in)))
				if i < len(w) {
					other := w[:i] + string([]byte{byte(c)}) + w[i+1:]
					same(t, fmt.Sprintf("Word(%q)", other), lexer.Word(other), slices.Contains(theWords, ascii(other)))
				}
			}
			if i > 0 && i < len(w) {
				same(t, "Word "+w[:i], lexer.Word(w[:i]), slices.Contains(theWords, w[:i]))
				same(t, "Word "+w[i:], lexer.Word(w[i:]), slices.Contains(theWords, w[i:]))
			}
		}
		for _, v := range theWords {
			same(t, "Word "+w+v, lexer.Word(w+v), false)
			same(t, "Word "+w+" "+v, lexer.Word(w+" "+v), false)
		}
	}
	for _, s := range []string{"", " ", "a", "count", "sum", "on", "SELECT ", " SELECT", "'as'", "1", "\x00", "\xff", "NULL\xff", "NULL\x00", strings.Repeat("AS", 1<<20)} {
		same(t, "Word of "+s[:min(9, len(s))], lexer.Word(s), false)
	}
}

// ascii has the letters a to z in capitals, and nothing else.
func ascii(s string) string {
	b := []byte(s)
	for i, c := range b {
		if c >= 'a' && c <= 'z' {
			b[i] = c - 32
		}
	}
	return string(b)
}

func TestWordOfOtherLetters(t *testing.T) {
	for _, w := range theWords {
		for i := range w {
			for r := rune(0x80); r < 0x3000; r++ {
				if s := w[:i] + string(r) + w[i+1:]; lexer.Word(s) {
					t.Fatalf("Word(%q)", s)
				}
				if s := strings.ToLower(w[:i]) + string(r) + strings.ToLower(w[i+1:]); lexer.Word(s) {
					t.Fatalf("Word(%q)", s)
				}
			}
		}
	}
}

func TestWordOfSmallTexts(t *testing.T) {
	letters := strings.Split("abcdefghijklmnopqrstuvwxyz", "")
	each(4, letters, func(s string) {
		if got, want := lexer.Word(s), slices.Contains(theWords, strings.ToUpper(s)); got != want {
			t.Fatalf("Word(%q): %v", s, got)
		}
		if s != "" && lexer.Word(s) == schema.Name(s) { // what is no word is a name
			t.Fatalf("Word and Name of %q: %v", s, lexer.Word(s))
		}
	})
}

// P17.2

// pieces: queries' tokens as they may be written, and what is none.
func pieces() []string {
	l := []string{"a", "B_2", "abcdefghijklmnop", "0", "1", "00012", "9223372036854775807", "0f3ff0000000000000", "0f8000000000000000", "0f7ff8000000000009", "''", "'x'", "'it''s'", "' '", "'\n?'", "'é\xff'", "'" + strings.Repeat("y", 64) + "'", "nulL", "True", "FALSE", "nan", "INF"}
	l = append(l, theWords...)
	return append(l, strings.Fields("<> <= >= + - * / = < > ( ) ,")...)
}

func bad() []string {
	return []string{"?", "_", "'", "9223372036854775808", "abcdefghijklmnopq", "0ffff0000000000000", ":", "\r", "\xff", "é", "'" + strings.Repeat("y", 65) + "'"}
}

// Each piece stands in the query at the place that its token tells, and nothing but blanks is between.
func TestP17_2Places(t *testing.T) {
	r := rand.New(rand.NewSource(2))
	blanks := []string{" ", "\t", "\n", "  ", " \n\t"}
	l := pieces()
	for range 20000 {
		s := strings.Repeat("\n", r.Intn(2))
		var want []lexer.Token
		for range r.Intn(15) {
			p := l[r.Intn(len(l))]
			if len(s)+len(p) > 990 {
				break
			}
			x, size := plainToken(p)
			if size != len(p) {
				t.Fatalf("%q is %d bytes", p, size)
			}
			want = append(want, at(len(s), x))
			s += p + blanks[r.Intn(len(blanks))]
		}
		check(t, s, right(append(want, end(len(s)))...))
	}
}

// What stands between a token's place and the next one's is it, and blanks behind it.
func TestP17_2BetweenAreBlanks(t *testing.T) {
	r := rand.New(rand.NewSource(3))
	l := append(pieces(), " ", "\n", "\t", " ", "\n", "\t")
	taken := 0
	for range 50000 {
		s := ""
		for range r.Intn(12) {
			s += l[r.Intn(len(l))]
		}
		a := lex(s)
		if a.e != api.OK {
			continue
		}
		taken++
		ahead := s[:a.l[0].At]
		same(t, "blanks ahead", strings.Trim(ahead, " \t\n"), "")
		for i, x := range a.l[:len(a.l)-1] {
			piece := strings.TrimRight(s[x.At:a.l[i+1].At], " \t\n")
			check(t, piece, right(at(0, x), end(len(piece))))
		}
	}
	if taken < 5000 {
		t.Errorf("only %d were taken", taken)
	}
}

// All pairs of pieces, of which some are none, with and without a blank between.
func TestP17_2Pairs(t *testing.T) {
	l := append(pieces(), bad()...)
	for _, a := range l {
		for _, b := range l {
			for _, between := range []string{"", " ", "\n", "\t ", "'", "_", "0"} {
				check(t, a+between+b, plain(a+between+b))
			}
		}
	}
}

func TestP17_2ByChance(t *testing.T) {
	r := rand.New(rand.NewSource(4))
	l := append(pieces(), " ", "\n", "\t", "_", "0f", "'", "''", "7")
	for range 100000 {
		var b []byte
		for n := r.Intn(40); n > 0; n-- {
			b = append(b, l[r.Intn(len(l))]...)
			if r.Intn(3) == 0 {
				b = append(b, ' ')
			}
		}
		for n := r.Intn(3); n > 0 && len(b) > 0; n-- {
			b[r.Intn(len(b))] = byte(r.Intn(256))
		}
		check(t, string(b), plain(string(b)))
	}
}

// R1: what is no text of queries at all.
func TestR1Bytes(t *testing.T) {
	r := rand.New(rand.NewSource(6))
	for range 20000 {
		b := make([]byte, r.Intn(30))
		r.Read(b)
		check(t, string(b), plain(string(b)))
		lexer.Word(string(b))
	}
}

// R3: what was told stays, whatever becomes of the query's bytes, and of what else was told.

func TestR3QueryChanged(t *testing.T) {
	s := "SELECT From name NAME 'text' 'it''s' 12 0f3ff0000000000000 nan TRUE <> ) select x"
	b := []byte(s)
	got := lex(unsafe.String(&b[0], len(b)))
	for i := range b {
		b[i] = '#'
	}
	if want := plain(s); !got.same(want) {
		t.Errorf("Lex of what was changed behind it: %+v, want %+v", got, want)
	}
}

func TestR3QueryNotChanged(t *testing.T) {
	for _, s := range []string{"SELECT a FROM B WHERE c = 'it''s' AND 1 < 0f3ff0000000000000", "a ? b", "'"} {
		b := []byte(s + "spare")
		lex(unsafe.String(&b[0], len(s)))
		lexer.Word(unsafe.String(&b[0], len(s)))
		same(t, "the query", string(b), s+"spare")
	}
}

func TestR3Own(t *testing.T) {
	const s = "SELECT name, 'text', name, 'text' FROM SELECT t"
	want := plain(s)
	first, second := lex(s), lex(s)
	full := first.l[:cap(first.l)]
	for i, x := range full {
		if i >= len(first.l) && x != (lexer.Token{}) {
			t.Errorf("the room behind has %+v", x)
		}
		full[i] = lexer.Token{Kind: 9, S: "spoiled", At: -1}
	}
	if !second.same(want) || !lex(s).same(want) {
		t.Errorf("Lex behind a list that was spoiled: %+v", second)
	}
	l := lex(s).l
	for i := range 4 { // no two texts share their bytes, either
		for _, text := range []string{l[i].S, l[i].Value.S} {
			if l[i].Kind != lexer.KindOp {
				for j := range len(text) {
					unsafe.Slice(unsafe.StringData(text), len(text))[j] = '#'
				}
			}
		}
	}
	for i := 4; i < len(l); i++ {
		same(t, "a token behind", l[i], want.l[i])
	}
	if !lex(s).same(want) {
		t.Error("Lex behind texts that were spoiled")
	}
}

// R4, R5: pure functions, whoever calls them at one time.
func TestR4(t *testing.T) {
	queries := []string{"SELECT a, 'x' FROM t WHERE b <> 0f7ff8000000000001", "a ? b", strings.Repeat("a ", 501), ""}
	var all sync.WaitGroup
	for range 8 {
		all.Go(func() {
			for range 200 {
				for _, s := range queries {
					if !lex(s).same(plain(s)) {
						t.Errorf("Lex(%q) tells otherwise", s)
					}
				}
			}
		})
	}
	all.Wait()
}
