package value_test

import (
	"bytes"
	"cmp"
	"encoding/binary"
	"fmt"
	"math"
	"math/big"
	"regexp"
	"slices"
	"strings"
	"testing"

	"talus/api"
	"talus/value"
)

const (
	nan  = 0x7ff8000000000000
	inf  = 0x7ff0000000000000
	ninf = -1 << 52
	zero = math.MinInt // the bits of -0
)

func same(t *testing.T, what string, got, want any) {
	t.Helper()
	if a, b := fmt.Sprint(got), fmt.Sprint(want); a != b {
		t.Errorf("%s: %s, want %s", what, a, b)
	}
}

func integer(n int) api.Value { return api.Value{Kind: api.Int, N: n} }
func float(n int) api.Value   { return api.Value{Kind: api.Float, N: n} }
func str(s string) api.Value  { return api.Value{Kind: api.Str, S: s} }
func truth(n int) api.Value   { return api.Value{Kind: api.Bool, N: n} }
func bits(f float64) int      { return int(math.Float64bits(f)) }

func say(v api.Value) string { return fmt.Sprintf("{%d %d %q}", v.Kind, v.N, v.S) }

// ints: ends of lengths in bits and in digits, and small ones.
func ints() []int {
	l := []int{math.MinInt, math.MinInt + 1, math.MaxInt, math.MaxInt - 1}
	for i := -3; i <= 12; i++ {
		l = append(l, i)
	}
	for bit := 5; bit < 63; bit++ {
		u := 1 << bit
		l = append(l, u-1, u, u+1, -u-1, -u, -u+1)
	}
	for ten := 100; ten < math.MaxInt/10; ten *= 10 {
		l = append(l, ten-1, ten, -ten, 1-ten)
	}
	return l
}

// goodFloats: by their bits.
func goodFloats() []int {
	l := []int{0, nan, inf, ninf}
	for _, f := range []float64{1, 2, 0.5, 1e-300, 1e300, math.Pi, math.MaxFloat64, math.SmallestNonzeroFloat64, 0x1p-1022, 10, 255} {
		l = append(l, bits(f), bits(-f))
	}
	return l
}

// badFloats: -0, and NaNs that are not the one.
func badFloats() []int {
	return []int{zero, nan + 1, inf + 1, math.MaxInt, -1, ninf + 1, -1 << 51, nan - 1}
}

// texts: of at most MaxText bytes.
func texts() []string {
	return []string{"", "'", "''", "a", "b", "A", "ab", "it's", "'it's'", "''''", "\x00", "\x00a", "\xff", "\xff'\xfe", "ä", "€", "a\nb", " ", "NULL", "TRUE", "1", "-1", "NAN", "0f", "\\", "\"",
		strings.Repeat("x", 63), strings.Repeat("x", 64), strings.Repeat("'", 64), strings.Repeat("é", 32)}
}

func longTexts() []string {
	return []string{strings.Repeat("x", 65), strings.Repeat("'", 65), strings.Repeat("é", 33), strings.Repeat("€", 22), strings.Repeat("x", 128), strings.Repeat("x", 70000)}
}

func goodValues() []api.Value {
	l := []api.Value{{}, truth(0), truth(1)}
	for _, n := range ints() {
		l = append(l, integer(n))
	}
	for _, n := range goodFloats() {
		l = append(l, float(n))
	}
	for _, s := range texts() {
		l = append(l, str(s))
	}
	return l
}

func badValues() []api.Value {
	var l []api.Value
	for _, n := range badFloats() {
		l = append(l, float(n))
	}
	for _, s := range longTexts() {
		l = append(l, str(s))
	}
	for _, n := range []int{-1, 2, 3, 4, 255, 256, 1 << 32, math.MinInt, math.MaxInt} {
		l = append(l, truth(n))
	}
	for _, n := range []int{1, -1, math.MinInt, math.MaxInt} {
		l = append(l, api.Value{N: n}, api.Value{Kind: api.Str, N: n}, api.Value{Kind: api.Str, N: n, S: "a"})
	}
	for _, s := range []string{"a", "\x00", " ", "NULL", strings.Repeat("x", 65)} {
		for _, n := range []int{0, 1} {
			for _, kind := range []int{api.Null, api.Int, api.Float, api.Bool} {
				l = append(l, api.Value{Kind: kind, N: n, S: s})
			}
		}
	}
	for _, kind := range []int{math.MinInt, -255, -2, -1, 5, 6, 7, 8, 127, 128, 256, 257, 259, 1 << 32, 1<<32 + 1, math.MaxInt} {
		l = append(l, api.Value{Kind: kind}, api.Value{Kind: kind, N: 1}, api.Value{Kind: kind, S: "a"})
	}
	return l
}

func TestP9_1Good(t *testing.T) {
	for _, v := range goodValues() {
		same(t, "Good "+say(v), value.Good(v), true)
	}
	for _, v := range badValues() {
		same(t, "Good "+say(v), value.Good(v), false)
	}
	for n := range 130 {
		same(t, fmt.Sprint("Good of so many bytes: ", n), value.Good(str(strings.Repeat("a", n))), n <= 64)
	}
}

func TestP9_1Fits(t *testing.T) {
	kinds := []int{math.MinInt, -4, -1, 0, 1, 2, 3, 4, 5, 6, 257, 1<<32 + 1, math.MaxInt}
	for _, kind := range kinds {
		column := kind >= 1 && kind <= 4
		for _, v := range goodValues() {
			same(t, fmt.Sprint("Fits ", say(v), kind), value.Fits(v, kind), column && (v.Kind == 0 || v.Kind == kind))
		}
		for _, v := range badValues() {
			same(t, fmt.Sprint("Fits ", say(v), kind), value.Fits(v, kind), false)
			same(t, fmt.Sprint("Fits its own ", say(v)), value.Fits(v, v.Kind), false)
		}
	}
}

// place: where a value of a kind stands among those of its kind, by numbers and bytes alone.
func place(v api.Value) (int, float64, string) {
	switch v.Kind {
	case api.Null:
		return 0, 0, ""
	case api.Float:
		f := math.Float64frombits(uint64(v.N))
		if f != f {
			return 1, 0, ""
		}
		return 0, f, ""
	case api.Str:
		return 0, 0, v.S
	}
	return v.N, 0, ""
}

func model(a, b api.Value) int {
	if a.Kind != b.Kind {
		return big.NewInt(int64(a.Kind)).Cmp(big.NewInt(int64(b.Kind)))
	}
	n, f, s := place(a)
	m, g, u := place(b)
	return cmp.Or(cmp.Compare(n, m), cmp.Compare(f, g), bytes.Compare([]byte(s), []byte(u)))
}

func TestP9_2Cmp(t *testing.T) {
	for _, c := range []struct {
		a, b api.Value
		want int
	}{
		{api.Value{}, integer(0), -1},
		{api.Value{}, integer(math.MinInt), -1},
		{api.Value{}, api.Value{}, 0},
		{api.Value{N: 5, S: "a"}, api.Value{N: -5, S: "b"}, 0},
		{integer(math.MinInt), integer(math.MaxInt), -1},
		{integer(-1), integer(0), -1},
		{integer(3), integer(3), 0},
		{api.Value{Kind: api.Int, N: 3, S: "a"}, api.Value{Kind: api.Int, N: 3, S: "b"}, 0},
		{integer(math.MaxInt), float(ninf), -1},
		{float(zero), float(0), 0},
		{float(ninf), float(bits(-math.MaxFloat64)), -1},
		{float(bits(-2)), float(bits(-1)), -1},
		{float(bits(-1)), float(zero), -1},
		{float(inf), float(nan), -1},
		{float(-1), float(nan), 0},
		{float(inf + 1), float(ninf + 1), 0},
		{float(-1), float(inf), 1},
		{float(nan), str(""), -1},
		{api.Value{Kind: api.Float, S: "b"}, api.Value{Kind: api.Float, S: "a"}, 0},
		{str(""), str("\x00"), -1},
		{str("B"), str("a"), -1},
		{str("a"), str("aa"), -1},
		{str("aa"), str("b"), -1},
		{str("z"), str("ä"), -1},
		{str("\xff"), str("€"), 1},
		{str("10"), str("9"), -1},
		{str("a"), str("a"), 0},
		{api.Value{Kind: api.Str, S: "a", N: 2}, api.Value{Kind: api.Str, S: "a", N: 1}, 0},
		{str(strings.Repeat("x", 70)), str(strings.Repeat("x", 71)), -1},
		{str("z"), truth(0), -1},
		{truth(0), truth(1), -1},
		{truth(1), truth(1), 0},
		{truth(2), truth(1), 1},
		{truth(-1), truth(0), -1},
		{truth(1), api.Value{Kind: 5}, -1},
		{api.Value{Kind: -1}, api.Value{}, -1},
		{api.Value{Kind: math.MinInt}, api.Value{Kind: math.MaxInt}, -1},
		{api.Value{Kind: 5, N: math.MinInt}, api.Value{Kind: 5, N: math.MaxInt}, -1},
		{api.Value{Kind: 5, N: 7, S: "a"}, api.Value{Kind: 5, N: 7, S: "b"}, 0},
		{api.Value{Kind: -5, N: 3}, api.Value{Kind: -5, N: 2}, 1},
		{api.Value{Kind: 9, N: 1}, api.Value{Kind: 8, N: 2}, 1},
	} {
		same(t, "Cmp "+say(c.a)+say(c.b), value.Cmp(c.a, c.b), c.want)
		same(t, "Cmp "+say(c.b)+say(c.a), value.Cmp(c.b, c.a), -c.want)
	}
	all := append(goodValues(), badValues()...)
	for _, a := range all {
		for _, b := range all {
			if got, want := value.Cmp(a, b), model(a, b); got != want {
				t.Errorf("Cmp %s %s: %d, want %d", say(a), say(b), got, want)
			}
		}
	}
}

func TestP9_2Text(t *testing.T) {
	long := strings.Repeat("x", 70000)
	for _, c := range []struct {
		v    api.Value
		want string
	}{
		{api.Value{}, "NULL"},
		{api.Value{N: 4, S: "a"}, "NULL"},
		{integer(0), "0"},
		{integer(-1), "-1"},
		{integer(1000), "1000"},
		{integer(math.MaxInt), "9223372036854775807"},
		{integer(math.MinInt), "-9223372036854775808"},
		{api.Value{Kind: api.Int, N: 7, S: "a"}, "7"},
		{float(0), "0f0000000000000000"},
		{float(zero), "0f0000000000000000"},
		{float(bits(1)), "0f3ff0000000000000"},
		{float(bits(-1)), "0fbff0000000000000"},
		{float(1), "0f0000000000000001"},
		{float(inf), "INF"},
		{float(ninf), "-INF"},
		{float(nan), "NAN"},
		{float(-1), "NAN"},
		{float(inf + 1), "NAN"},
		{str(""), "''"},
		{str("it's"), "'it''s'"},
		{str("'"), "''''"},
		{str("''"), "''''''"},
		{str("a\nb\x00"), "'a\nb\x00'"},
		{str("\xff"), "'\xff'"},
		{str("NULL"), "'NULL'"},
		{api.Value{Kind: api.Str, N: 7, S: "a"}, "'a'"},
		{str(long), "'" + long + "'"},
		{truth(0), "FALSE"},
		{truth(1), "TRUE"},
		{truth(2), "TRUE"},
		{truth(-1), "TRUE"},
		{truth(math.MinInt), "TRUE"},
		{api.Value{Kind: api.Bool, S: "a"}, "FALSE"},
		{api.Value{Kind: 5, N: 1, S: "a"}, ""},
		{api.Value{Kind: -1, N: 1, S: "a"}, ""},
		{api.Value{Kind: 1 << 32}, ""},
		{api.Value{Kind: math.MinInt}, ""},
	} {
		same(t, "Text "+say(c.v), value.Text(c.v), c.want)
	}
	for _, n := range ints() {
		same(t, "Text of an int", value.Text(integer(n)), fmt.Sprint(n))
	}
	for _, n := range goodFloats()[4:] {
		same(t, "Text of a float", value.Text(float(n)), fmt.Sprintf("0f%016x", uint64(n)))
	}
}

var (
	wholes = regexp.MustCompile(`^(0|-?[1-9][0-9]*)$`)
	floats = regexp.MustCompile(`^0f[0-9a-f]{16}$`)
	quoted = regexp.MustCompile(`^'((?:[^']|'')*)'$`)
)

// said: what a text says by the words of P9.2, if it says a good value.
func said(s string) (api.Value, bool) {
	for word, v := range map[string]api.Value{"NULL": {}, "TRUE": truth(1), "FALSE": truth(0), "NAN": float(nan), "INF": float(inf), "-INF": float(ninf)} {
		if s == word {
			return v, true
		}
	}
	if wholes.MatchString(s) {
		n, _ := new(big.Int).SetString(s, 10)
		return integer(int(n.Int64())), n.IsInt64()
	}
	if floats.MatchString(s) {
		n, _ := new(big.Int).SetString(s[2:], 16)
		f := math.Float64frombits(n.Uint64())
		good := f-f == 0 && (f != 0 || !math.Signbit(f))
		return float(bits(f)), good
	}
	if m := quoted.FindStringSubmatch(s); m != nil {
		inner := strings.ReplaceAll(m[1], "''", "'")
		return str(inner), len(inner) <= 64
	}
	return api.Value{}, false
}

func parses(t *testing.T, s string) bool {
	t.Helper()
	want, good := said(s)
	if !good {
		want = api.Value{}
	}
	v, ok := value.Parse(s)
	if ok != good || v != want {
		t.Errorf("Parse(%q): %s %v, want %s %v", s, say(v), ok, say(want), good)
	}
	return ok
}

func TestP9_2Parse(t *testing.T) {
	for _, s := range []string{
		"", " ", "null", "NULL ", " NULL", "Null", "NUL", "NULLS", "TRUE", "FALSE", "true", "True", "TRUE ", "FALS", "TRUEFALSE",
		"NULL", "NAN", "INF", "-INF", "+INF", "-NAN", "nan", "Inf", "INFINITY", "Infinity", "--INF", "- INF",
		"0", "1", "-1", "10", "-10", "-0", "+0", "+1", "00", "01", "-01", "1 ", " 1", "1_000", "0x10", "0b1", "0o7", "1e3", "1.0", ".5", "--1", "-", "+", "1-", "٣", "１",
		"9223372036854775807", "9223372036854775808", "-9223372036854775808", "-9223372036854775809", "-9223372036854775807",
		"18446744073709551615", "18446744073709551616", "18446744073709551617", "340282366920938463463374607431768211456", "340282366920938463463374607431768211457",
		"170141183460469231731687303715884105727", "-170141183460469231731687303715884105728",
		"0f", "0f0", "0f0000000000000000", "0f00000000000000000", "0f000000000000000", "0f3ff0000000000000", "0f3FF0000000000000", "0F3ff0000000000000", "f3ff0000000000000",
		"-0f3ff0000000000000", "0f8000000000000000", "0f8000000000000001", "0f7ff0000000000000", "0ffff0000000000000", "0f7ff8000000000000", "0f7ff0000000000001", "0fffffffffffffffff", "0f7fefffffffffffff", "0fffefffffffffffff", "0f3ff000000000000g", "0f+3ff000000000000", "0f3ff_000000000000",
		"'", "''", "'''", "''''", "'''''", "''''''", "'a'", "'a", "a'", "a", "\"a\"", "'a'b'", "'a''b'", "'a'''b'", "'a''''b'", "'a' ", " 'a'", "'a''", "''a'", "''a''", "'''a'''", "'a'  'b'", "'\n'", "'\x00'", "'\xff'", "'\xc3'", "'é'", "x'a'", "'NULL'", "'1'", "`a`",
	} {
		parses(t, s)
	}
	for _, v := range []struct {
		s string
		v api.Value
	}{
		{"NULL", api.Value{}}, {"TRUE", truth(1)}, {"FALSE", truth(0)}, {"-12", integer(-12)}, {"'it''s'", str("it's")}, {"''", str("")}, {"''''", str("'")},
		{"0f3ff0000000000000", float(bits(1))}, {"INF", float(inf)}, {"-INF", float(ninf)}, {"NAN", float(nan)},
	} {
		got, ok := value.Parse(v.s)
		same(t, "Parse "+v.s, say(got)+fmt.Sprint(ok), say(v.v)+"true")
	}
}

func TestP9_2ParseLong(t *testing.T) {
	for n := range 140 {
		same(t, fmt.Sprint("letters ", n), parses(t, "'"+strings.Repeat("a", n)+"'"), n <= 64)
		same(t, fmt.Sprint("quotes ", n), parses(t, "'"+strings.Repeat("''", n)+"'"), n <= 64)
		same(t, fmt.Sprint("of two bytes ", n), parses(t, "'"+strings.Repeat("é", n)+"'"), n <= 32)
		same(t, fmt.Sprint("mixed ", n), parses(t, "'"+strings.Repeat("''a", n)+"'"), n <= 32)
		same(t, fmt.Sprint("quotes alone ", n), parses(t, strings.Repeat("'", n)), n > 1 && n%2 == 0 && n <= 130)
		same(t, fmt.Sprint("digits ", n), parses(t, strings.Repeat("1", n)), n > 0 && n <= 19)
		same(t, fmt.Sprint("zeros ", n), parses(t, strings.Repeat("0", n)), n == 1)
	}
	for _, c := range []string{"1", "'", "a", "-", "0f", "N", "\xff", " "} {
		parses(t, strings.Repeat(c, 100000))
		parses(t, "'"+strings.Repeat(c, 100000)+"'")
	}
}

func TestP9_2ParseSmall(t *testing.T) {
	good := 0
	var walk func(letters []string, s string, most int)
	walk = func(letters []string, s string, most int) {
		if parses(t, s) {
			good++
		}
		for _, c := range letters {
			if most > 0 {
				walk(letters, s+c, most-1)
			}
		}
	}
	walk([]string{"'", "a", "\xff", " "}, "", 6)
	walk([]string{"-", "0", "1", "9", "+", "_"}, "", 5)
	walk([]string{"0f", "0000000", "00000000", "8", "7ff", "f", "F", "1"}, "", 5)
	walk([]string{"NULL", "TRUE", "FALSE", "NAN", "INF", "-", "'", " "}, "", 3)
	if good < 500 {
		t.Errorf("only %d were good", good)
	}
}

func TestP9_2ParseDamaged(t *testing.T) { // texts that are a byte away from one of a value
	for _, v := range goodValues() {
		s := value.Text(v)
		for i := range len(s) {
			parses(t, s[:i])
			parses(t, s[i:])
			parses(t, s[:i]+s[i+1:])
			for _, c := range []string{"'", "0", "-", "f", "F", " ", "\x00"} {
				parses(t, s[:i]+c+s[i:])
				parses(t, s[:i]+c+s[i+1:])
			}
			parses(t, s[:i]+string([]byte{s[i] ^ 32})+s[i+1:])
		}
	}
}

// listed: the bytes of values by the words of P9.3, of which all are good.
func listed(l []api.Value) []byte {
	b := binary.AppendUvarint(nil, uint64(len(l)))
	for _, v := range l {
		b = binary.AppendUvarint(b, uint64(v.Kind))
		switch v.Kind {
		case api.Int, api.Float, api.Bool:
			b = binary.AppendVarint(b, int64(v.N))
		case api.Str:
			b = binary.AppendUvarint(b, uint64(len(v.S)))
			b = append(b, v.S...)
		}
	}
	return b
}

func TestP9_3Bytes(t *testing.T) {
	for _, c := range []struct {
		l    []api.Value
		want []byte
	}{
		{nil, []byte{0}},
		{[]api.Value{}, []byte{0}},
		{[]api.Value{{}}, []byte{1, 0}},
		{[]api.Value{integer(0)}, []byte{1, 1, 0}},
		{[]api.Value{integer(-1), integer(1), integer(64)}, []byte{3, 1, 1, 1, 2, 1, 128, 1}},
		{[]api.Value{integer(math.MinInt)}, []byte{1, 1, 255, 255, 255, 255, 255, 255, 255, 255, 255, 1}},
		{[]api.Value{float(0), float(3)}, []byte{2, 2, 0, 2, 6}},
		{[]api.Value{float(bits(1))}, []byte{1, 2, 128, 128, 128, 128, 128, 128, 128, 240, 127}},
		{[]api.Value{float(ninf)}, []byte{1, 2, 255, 255, 255, 255, 255, 255, 255, 15}},
		{[]api.Value{str("")}, []byte{1, 3, 0}},
		{[]api.Value{str("ab"), str("é'")}, []byte{2, 3, 2, 'a', 'b', 3, 3, 0xc3, 0xa9, '\''}},
		{[]api.Value{truth(0), truth(1)}, []byte{2, 4, 0, 4, 2}},
		{[]api.Value{{}, str("x"), {}, integer(2), truth(1)}, []byte{5, 0, 3, 1, 'x', 0, 1, 4, 4, 2}},
	} {
		same(t, fmt.Sprint("Bytes ", c.l), value.Bytes(c.l), c.want)
	}
	for _, v := range goodValues() {
		same(t, "Bytes of "+say(v), value.Bytes([]api.Value{v}), listed([]api.Value{v}))
	}
	all := goodValues()
	for n := range all {
		same(t, fmt.Sprint("Bytes of ", n), value.Bytes(all[:n]), listed(all[:n]))
	}
}

func TestP9_3BytesOfBad(t *testing.T) { // they are told as Nulls
	for _, v := range badValues() {
		same(t, "Bytes of "+say(v), value.Bytes([]api.Value{v}), []byte{1, 0})
		l := []api.Value{integer(4), v, str("a"), v}
		given := slices.Clone(l)
		same(t, "Bytes among others: "+say(v), value.Bytes(l), []byte{4, 1, 8, 0, 3, 1, 'a', 0})
		same(t, "l stays", l, given)
	}
}

// taken: the values that bytes are of, by the words of P9.3.
func taken(b []byte) ([]api.Value, bool) {
	whole := true
	digits := func() uint64 {
		u, n := binary.Uvarint(b)
		if n <= 0 || len(binary.AppendUvarint(nil, u)) != n {
			whole, b = false, nil
			return 0
		}
		b = b[n:]
		return u
	}
	var l []api.Value
	for left := digits(); left > 0 && whole; left-- {
		v := api.Value{Kind: int(min(digits(), 9))}
		switch v.Kind {
		case api.Int, api.Float, api.Bool:
			n, _ := binary.Varint(binary.AppendUvarint(nil, digits()))
			v.N = int(n)
			f := math.Float64frombits(uint64(n))
			whole = whole && (v.Kind != api.Float || n == nan || f == f && (f != 0 || n == 0))
			whole = whole && (v.Kind != api.Bool || n == 0 || n == 1)
		case api.Str:
			count := digits()
			whole = whole && count <= 64 && count <= uint64(len(b))
			if whole {
				v.S, b = string(b[:count]), b[count:]
			}
		}
		whole = whole && v.Kind <= 4
		l = append(l, v)
	}
	return l, whole && len(b) == 0
}

func loads(t *testing.T, b []byte) bool {
	t.Helper()
	given := slices.Clone(b)
	want, good := taken(b)
	l, e := value.Load(b)
	if !bytes.Equal(b, given) {
		t.Errorf("Load of %v: they are changed: %v", given, b)
	}
	switch {
	case good && (e != api.OK || !slices.Equal(l, want)):
		t.Errorf("Load of %v: %v %v, want %v", b, l, e, want)
	case !good && (e != api.ErrCorrupt || len(l) > 0):
		t.Errorf("Load of %v: %v %v, want corrupt", b, l, e)
	}
	return e == api.OK
}

func TestP9_3LoadSmall(t *testing.T) {
	good := 0
	var walk func(letters, b []byte, most int)
	walk = func(letters, b []byte, most int) {
		if loads(t, b) {
			good++
		}
		for _, c := range letters {
			if len(b) < most {
				walk(letters, append(b[:len(b):len(b)], c), most)
			}
		}
	}
	walk([]byte{0, 1, 2, 3, 4, 5, 127, 128, 129, 255}, nil, 5)
	walk([]byte{0, 1, 2, 3, 4}, nil, 7)
	if good < 300 {
		t.Errorf("only %d were good", good)
	}
}

func numbers(l ...uint64) []byte {
	var b []byte
	for _, u := range l {
		b = binary.AppendUvarint(b, u)
	}
	return b
}

func TestP9_3LoadEdges(t *testing.T) {
	zig := func(n int) uint64 { return uint64(n<<1) ^ uint64(n>>63) }
	text := func(n uint64, s string) []byte { return append(numbers(1, 3, n), s...) }
	for what, c := range map[string]struct {
		b    []byte
		want bool
	}{
		"nothing":                       {nil, false},
		"no values":                     {[]byte{0}, true},
		"no values, and more":           {[]byte{0, 0}, false},
		"one is missing":                {numbers(1), false},
		"one of two":                    {numbers(2, 0), false},
		"one too many":                  {numbers(1, 0, 0), false},
		"all of them":                   {numbers(2, 0, 0), true},
		"far too many":                  {numbers(math.MaxUint64, 0, 0), false},
		"2^63 of them":                  {numbers(1<<63, 0), false},
		"2^32 of them":                  {numbers(1<<32, 0), false},
		"2^32 + 1 of them":              {numbers(1<<32+1, 0), false},
		"an int without its number":     {numbers(1, 1), false},
		"an int":                        {numbers(1, 1, 9), true},
		"the least int":                 {numbers(1, 1, math.MaxUint64), true},
		"an int above":                  {append(numbers(1, 1), 255, 255, 255, 255, 255, 255, 255, 255, 255, 2), false},
		"an int with a 0 ahead":         {[]byte{1, 1, 129, 0}, false},
		"an int that ends early":        {[]byte{1, 1, 129}, false},
		"a float":                       {numbers(1, 2, zig(bits(1.5))), true},
		"a float without its number":    {numbers(1, 2), false},
		"the NaN":                       {numbers(1, 2, zig(nan)), true},
		"another NaN":                   {numbers(1, 2, zig(nan+1)), false},
		"a NaN with a sign":             {numbers(1, 2, zig(-1)), false},
		"+infinity":                     {numbers(1, 2, zig(inf)), true},
		"-infinity":                     {numbers(1, 2, zig(ninf)), true},
		"-0":                            {numbers(1, 2, zig(zero)), false},
		"the least float above -0":      {numbers(1, 2, zig(zero+1)), true},
		"a truth":                       {numbers(1, 4, 2), true},
		"FALSE":                         {numbers(1, 4, 0), true},
		"a truth of -1":                 {numbers(1, 4, 1), false},
		"a truth of -2":                 {numbers(1, 4, 3), false},
		"a truth of 2":                  {numbers(1, 4, 4), false},
		"a truth without its number":    {numbers(1, 4), false},
		"a truth of 2^62":               {numbers(1, 4, 1<<63), false},
		"a text":                        {text(1, "a"), true},
		"a text without a count":        {numbers(1, 3), false},
		"an empty text":                 {text(0, ""), true},
		"an empty text, and more":       {text(0, "a"), false},
		"a text that ends early":        {text(2, "a"), false},
		"a text with more behind":       {text(1, "ab"), false},
		"a text of 2^64 - 1":            {text(math.MaxUint64, "a"), false},
		"a text of 2^63":                {text(1<<63, "a"), false},
		"a text of 2^32 + 1":            {text(1<<32+1, "a"), false},
		"a text with a 0 ahead":         {append([]byte{1, 3, 129, 0}, "a"...), false},
		"a text of MaxText":             {text(64, strings.Repeat("a", 64)), true},
		"a text above MaxText":          {text(65, strings.Repeat("a", 65)), false},
		"a text above MaxText, cut off": {text(65, strings.Repeat("a", 64)), false},
		"a text of 300":                 {text(300, strings.Repeat("a", 300)), false},
		"a text that is no UTF-8":       {text(2, "\xff\xc3"), true},
		"kind 5":                        {numbers(1, 5), false},
		"kind 5 with a number":          {numbers(1, 5, 0), false},
		"kind 2^64 - 1":                 {numbers(1, math.MaxUint64), false},
		"kind 2^63":                     {numbers(1, 1<<63), false},
		"kind 2^32 + 1":                 {numbers(1, 1<<32+1, 4), false},
		"kind 256 + 1":                  {numbers(1, 257, 4), false},
		"kind 0 with a 0 ahead":         {[]byte{1, 128, 0}, false},
		"a count with a 0 ahead":        {[]byte{129, 0, 0}, false},
		"a null with a number":          {numbers(1, 0, 5), false},
		"a bad one between":             {numbers(3, 1, 4, 4, 4, 1, 4), false},
		"a bad one, told as a Null":     {numbers(3, 1, 4, 0, 1, 4), true},
	} {
		same(t, what, loads(t, c.b), c.want)
	}
}

func TestP9_3LoadDamaged(t *testing.T) {
	var l []api.Value
	for i, v := range goodValues() {
		if i%9 == 0 || v.Kind != api.Int {
			l = append(l, v)
		}
	}
	b := value.Bytes(l)
	same(t, "whole", loads(t, b), true)
	for n := range b {
		same(t, fmt.Sprint("a beginning of ", n), loads(t, b[:n]), false)
		for bit := range 8 {
			c := slices.Clone(b)
			c[n] ^= 1 << bit
			loads(t, c)
		}
	}
	for c := range 256 {
		same(t, "one more", loads(t, append(slices.Clone(b), byte(c))), false)
	}
}

func TestP9_3Many(t *testing.T) { // in a time that does not grow with the square
	l := slices.Repeat([]api.Value{integer(5), str("abc"), {}, truth(1)}, 100000)
	b := value.Bytes(l)
	if !bytes.Equal(b, listed(l)) {
		t.Error("Bytes of many")
	}
	o, e := value.Load(b)
	if e != api.OK || !slices.Equal(o, l) {
		t.Error("Load of many")
	}
	same(t, "one less", loads(t, b[:len(b)-1]), false)
}

func TestP9_4Truth(t *testing.T) {
	for _, c := range []struct {
		v    api.Value
		want int
	}{
		{truth(0), 0}, {truth(1), 1}, {truth(2), 1}, {truth(-1), 1}, {truth(math.MinInt), 1}, {truth(1 << 32), 1},
		{api.Value{Kind: api.Bool, S: "a"}, 0}, {api.Value{Kind: api.Bool, N: 1, S: "a"}, 1},
		{api.Value{}, -1}, {api.Value{N: 1}, -1}, {integer(0), -1}, {integer(1), -1}, {float(0), -1}, {float(bits(1)), -1},
		{str(""), -1}, {str("TRUE"), -1}, {api.Value{Kind: 5, N: 1}, -1}, {api.Value{Kind: -1}, -1}, {api.Value{Kind: 1<<32 + 4, N: 1}, -1},
	} {
		same(t, "Truth "+say(c.v), value.Truth(c.v), c.want)
	}
}

func TestP9_4Of(t *testing.T) {
	same(t, "Of 1", say(value.Of(1)), say(truth(1)))
	same(t, "Of 0", say(value.Of(0)), say(truth(0)))
	for _, n := range []int{-1, -2, 2, 3, 256, 1 << 32, math.MinInt, math.MaxInt} {
		same(t, fmt.Sprint("Of ", n), say(value.Of(n)), say(api.Value{}))
	}
	for n := -1; n <= 1; n++ {
		same(t, "Truth undoes Of", value.Truth(value.Of(n)), n)
	}
}

func TestP9_4Logic(t *testing.T) {
	// by what is not known being each of both: the answer holds if it is one for all of them
	possible := func(a int) []int {
		if a < 0 {
			return []int{0, 1}
		}
		return []int{min(a, 1)}
	}
	agreed := func(a, b int, f func(a, b int) int) int {
		var l []int
		for _, x := range possible(a) {
			for _, y := range possible(b) {
				l = append(l, f(x, y))
			}
		}
		if slices.Min(l) != slices.Max(l) {
			return -1
		}
		return l[0]
	}
	all := []int{-1, 0, 1, 2, 3, -2, -3, 256, 1 << 32, -1 << 32, math.MinInt, math.MaxInt}
	for _, a := range all {
		same(t, fmt.Sprint("Not ", a), value.Not(a), agreed(a, 0, func(a, _ int) int { return 1 - a }))
		for _, b := range all {
			same(t, fmt.Sprint("And ", a, b), value.And(a, b), agreed(a, b, func(a, b int) int { return a * b }))
			same(t, fmt.Sprint("Or ", a, b), value.Or(a, b), agreed(a, b, func(a, b int) int { return max(a, b) }))
		}
	}
}

func TestP9_4LogicTables(t *testing.T) {
	known := []int{0, -1, 1}
	and := [][]int{{0, 0, 0}, {0, -1, -1}, {0, -1, 1}}
	or := [][]int{{0, -1, 1}, {-1, -1, 1}, {1, 1, 1}}
	for i, a := range known {
		same(t, "Not", value.Not(a), []int{1, -1, 0}[i])
		for j, b := range known {
			same(t, fmt.Sprint("And ", a, b), value.And(a, b), and[i][j])
			same(t, fmt.Sprint("Or ", a, b), value.Or(a, b), or[i][j])
		}
	}
}

func TestP9_5Order(t *testing.T) {
	l := append(goodValues(), badValues()...)
	shuffled := slices.Clone(l)
	for i := range shuffled {
		j := i * 7919 % (i + 1)
		shuffled[i], shuffled[j] = shuffled[j], shuffled[i]
	}
	slices.SortStableFunc(shuffled, value.Cmp)
	for i, a := range shuffled { // those further on are not less, those alike stand together
		same(t, "with itself", value.Cmp(a, a), 0)
		alike := true
		for _, b := range shuffled[i:] {
			c := value.Cmp(a, b)
			if c > 0 || c == 0 && !alike || value.Cmp(b, a) != -c {
				t.Errorf("%s and %s: %d, %d", say(a), say(b), c, value.Cmp(b, a))
			}
			alike = c == 0
		}
	}
	for _, a := range goodValues() {
		for _, b := range goodValues() {
			same(t, "good ones alike are the same: "+say(a)+say(b), value.Cmp(a, b) == 0, a == b)
		}
	}
}

func TestP9_5ParseUndoesText(t *testing.T) {
	said := map[string]api.Value{}
	for _, v := range goodValues() {
		s := value.Text(v)
		o, ok := value.Parse(s)
		same(t, "Parse of "+s, say(o)+fmt.Sprint(ok), say(v)+"true")
		if other, found := said[s]; found && other != v {
			t.Errorf("%s says %s and %s", s, say(v), say(other))
		}
		said[s] = v
	}
	for c := range 256 {
		for d := range 256 {
			v := str(string([]byte{byte(c), byte(d)}))
			o, ok := value.Parse(value.Text(v))
			if !ok || o != v {
				t.Errorf("Parse of Text of %s: %s", say(v), say(o))
			}
		}
	}
}

func TestP9_5LoadUndoesBytes(t *testing.T) {
	all := goodValues()
	for n := range len(all) + 1 {
		for _, l := range [][]api.Value{all[:n], all[n:]} {
			o, e := value.Load(value.Bytes(l))
			same(t, "the error", e, api.OK)
			if !slices.Equal(o, l) {
				t.Errorf("Load of Bytes of %d: %v", n, o)
			}
		}
	}
	for _, v := range badValues() { // what is not good comes back as a Null
		o, e := value.Load(value.Bytes([]api.Value{v, truth(1)}))
		same(t, "Load of Bytes of "+say(v), fmt.Sprint(o, e), fmt.Sprint([]api.Value{{}, truth(1)}, api.OK))
	}
}

func TestMemory(t *testing.T) {
	l := []api.Value{str("abc"), integer(5)}
	b := value.Bytes(l)
	want := slices.Clone(b)
	o, _ := value.Load(b)
	p, _ := value.Load(b)
	clear(b[:cap(b)])
	same(t, "bytes changed behind", o, l)
	same(t, "bytes again", value.Bytes(l), want)
	clear(o[:cap(o)])
	same(t, "lists of their own", p, l)
	clear(l)
	same(t, "values changed behind", p, []api.Value{str("abc"), integer(5)})
}
