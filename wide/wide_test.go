package wide_test

import (
	"math"
	"math/big"
	"strings"
	"testing"

	"talus/api"
	"talus/wide"
)

var (
	least    = api.Wide{Hi: math.MinInt}
	greatest = api.Wide{Hi: math.MaxInt, Lo: math.MaxUint64}
)

const (
	leastText    = "-170141183460469231731687303715884105728"
	greatestText = "170141183460469231731687303715884105727"
)

// power: of 2, of any length.
func power(bit uint) *big.Int { return new(big.Int).Lsh(big.NewInt(1), bit) }

// large: a Wide as a number of any length, from what the chapter says of Hi and Lo.
func large(a api.Wide) *big.Int {
	n := new(big.Int).Mul(big.NewInt(int64(a.Hi)), power(64))
	return n.Add(n, new(big.Int).SetUint64(a.Lo))
}

// of: the Wide that is a number; false, if it is none.
func of(n *big.Int) (api.Wide, bool) {
	if n.Cmp(power(127)) >= 0 || n.Cmp(new(big.Int).Neg(power(127))) < 0 {
		return api.Wide{}, false
	}
	hi, lo := new(big.Int).DivMod(n, power(64), new(big.Int)) // lo is never below 0
	return api.Wide{Hi: int(hi.Int64()), Lo: lo.Uint64()}, true
}

// draws tells numbers that look thrown, the same ones each time, of all lengths in bits and both signs.
func draws(n int) []api.Wide {
	state := uint64(1)
	draw := func() uint64 {
		state = state*6364136223846793005 + 1442695040888963407
		return state ^ state>>29
	}
	var l []api.Wide
	for range n {
		hi, lo, shift := draw(), draw(), draw()>>57
		whole := large(api.Wide{Hi: int(hi), Lo: lo})
		a, _ := of(whole.Rsh(whole, uint(shift)))
		l = append(l, a)
	}
	return l
}

// edges are numbers at which a length in bits, in digits, or a word ends, on both sides of 0.
func edges() []api.Wide {
	var l []api.Wide
	around := func(n *big.Int) {
		for k := int64(-2); k <= 2; k++ {
			near := new(big.Int).Add(n, big.NewInt(k))
			for _, m := range []*big.Int{near, new(big.Int).Neg(near)} {
				if a, ok := of(m); ok {
					l = append(l, a)
				}
			}
		}
	}
	for _, bit := range []uint{0, 1, 31, 32, 33, 61, 62, 63, 64, 65, 66, 95, 96, 125, 126, 127} {
		around(power(bit))
	}
	for digits := int64(1); digits < 40; digits++ {
		around(new(big.Int).Exp(big.NewInt(10), big.NewInt(digits), nil))
	}
	return l
}

func numbers() []api.Wide { return append(edges(), draws(100)...) }

func ints() []int {
	l := []int{0, 3, 10, -10, 1000000007, -1000000007}
	for bit := range 64 {
		n := 1 << bit
		l = append(l, n-1, n, n+1, -n-1, -n, -n+1)
	}
	for _, a := range draws(100) {
		l = append(l, int(a.Lo))
	}
	return l
}

// check: is an answer the number that was reckoned, or false and zero where that is no Wide?
func check(t *testing.T, what string, got api.Wide, ok bool, n *big.Int, args ...any) {
	t.Helper()
	a, fits := of(n)
	if got != a || ok != fits {
		t.Errorf("%s of %v: %v, %v, want %v, %v", what, args, got, ok, a, fits)
	}
}

func TestP4_1Of(t *testing.T) {
	for n, a := range map[int]api.Wide{
		0:             {},
		1:             {Lo: 1},
		-1:            {Hi: -1, Lo: math.MaxUint64},
		math.MaxInt:   {Lo: 1<<63 - 1},
		math.MinInt:   {Hi: -1, Lo: 1 << 63},
		math.MinInt32: {Hi: -1, Lo: math.MaxUint64 - 1<<31 + 1},
	} {
		if wide.Of(n) != a {
			t.Errorf("Of(%d): %v, want %v", n, wide.Of(n), a)
		}
	}
	for _, n := range ints() {
		check(t, "Of", wide.Of(n), true, big.NewInt(int64(n)), n)
	}
}

func TestP4_1Add(t *testing.T) {
	for _, a := range numbers() {
		for _, b := range numbers() {
			sum, ok := wide.Add(a, b)
			check(t, "Add", sum, ok, new(big.Int).Add(large(a), large(b)), a, b)
		}
	}
}

func TestP4_1AddAtTheEnds(t *testing.T) {
	for _, c := range []struct {
		a, b, sum api.Wide
		ok        bool
	}{
		{wide.Of(math.MaxInt), wide.Of(1), api.Wide{Lo: 1 << 63}, true},
		{wide.Of(math.MinInt), wide.Of(-1), api.Wide{Hi: -1, Lo: 1<<63 - 1}, true},
		{api.Wide{Lo: math.MaxUint64}, wide.Of(1), api.Wide{Hi: 1}, true},
		{wide.Of(-1), wide.Of(1), api.Wide{}, true},
		{greatest, wide.Of(0), greatest, true},
		{greatest, wide.Of(1), api.Wide{}, false},
		{greatest, wide.Of(-1), api.Wide{Hi: math.MaxInt, Lo: math.MaxUint64 - 1}, true},
		{greatest, greatest, api.Wide{}, false},
		{greatest, least, wide.Of(-1), true},
		{least, wide.Of(0), least, true},
		{least, wide.Of(-1), api.Wide{}, false},
		{least, wide.Of(1), api.Wide{Hi: math.MinInt, Lo: 1}, true},
		{least, least, api.Wide{}, false}, // modulo 2^128 this is 0
		{api.Wide{Hi: 1 << 62}, api.Wide{Hi: 1 << 62}, api.Wide{}, false},
		{api.Wide{Hi: -1 << 62}, api.Wide{Hi: -1 << 62}, least, true},
		{api.Wide{Hi: 1 << 62}, api.Wide{Hi: 1<<62 - 1, Lo: math.MaxUint64}, greatest, true},
	} {
		for _, p := range [][2]api.Wide{{c.a, c.b}, {c.b, c.a}} {
			if sum, ok := wide.Add(p[0], p[1]); sum != c.sum || ok != c.ok {
				t.Errorf("Add(%v, %v): %v, %v, want %v, %v", p[0], p[1], sum, ok, c.sum, c.ok)
			}
		}
	}
}

func TestP4_1Neg(t *testing.T) {
	for _, a := range numbers() {
		n, ok := wide.Neg(a)
		check(t, "Neg", n, ok, new(big.Int).Neg(large(a)), a)
	}
	if n, ok := wide.Neg(least); ok || n != (api.Wide{}) {
		t.Errorf("Neg of the least: %v, %v", n, ok)
	}
	if n, ok := wide.Neg(greatest); !ok || n != (api.Wide{Hi: math.MinInt, Lo: 1}) {
		t.Errorf("Neg of the greatest: %v, %v", n, ok)
	}
	if n, ok := wide.Neg(api.Wide{}); !ok || n != (api.Wide{}) {
		t.Errorf("Neg of 0: %v, %v", n, ok)
	}
	if n, ok := wide.Neg(api.Wide{Hi: 1}); !ok || n != (api.Wide{Hi: -1}) {
		t.Errorf("Neg of 2^64: %v, %v", n, ok)
	}
}

func TestP4_1Sub(t *testing.T) {
	for _, a := range numbers() {
		for _, b := range numbers() {
			rest, ok := wide.Sub(a, b)
			check(t, "Sub", rest, ok, new(big.Int).Sub(large(a), large(b)), a, b)
		}
	}
}

// The least number has no Neg, and can be taken off all the same.
func TestP4_1SubAtTheEnds(t *testing.T) {
	for _, c := range []struct {
		a, b, rest api.Wide
		ok         bool
	}{
		{least, least, api.Wide{}, true},
		{wide.Of(-1), least, greatest, true},
		{wide.Of(0), least, api.Wide{}, false},
		{wide.Of(1), least, api.Wide{}, false},
		{greatest, least, api.Wide{}, false},
		{least, wide.Of(1), api.Wide{}, false},
		{least, greatest, api.Wide{}, false},
		{least, wide.Of(0), least, true},
		{greatest, wide.Of(-1), api.Wide{}, false},
		{greatest, greatest, api.Wide{}, true},
		{wide.Of(-1), greatest, least, true},
		{wide.Of(-2), greatest, api.Wide{}, false},
		{api.Wide{Hi: 1}, wide.Of(1), api.Wide{Lo: math.MaxUint64}, true},
		{wide.Of(0), wide.Of(1), wide.Of(-1), true},
	} {
		if rest, ok := wide.Sub(c.a, c.b); rest != c.rest || ok != c.ok {
			t.Errorf("Sub(%v, %v): %v, %v, want %v, %v", c.a, c.b, rest, ok, c.rest, c.ok)
		}
	}
}

func TestP4_1Mul(t *testing.T) {
	for _, a := range ints() {
		for _, b := range ints() {
			n := new(big.Int).Mul(big.NewInt(int64(a)), big.NewInt(int64(b)))
			check(t, "Mul", wide.Mul(a, b), true, n, a, b)
		}
	}
}

func TestP4_1MulAtTheEnds(t *testing.T) {
	for _, c := range []struct {
		a, b    int
		product api.Wide
	}{
		{math.MinInt, 2, api.Wide{Hi: -1}},
		{math.MinInt, 1, api.Wide{Hi: -1, Lo: 1 << 63}},
		{math.MinInt, -1, api.Wide{Lo: 1 << 63}},
		{math.MinInt, 0, api.Wide{}},
		{0, -1, api.Wide{}},
		{math.MinInt, math.MinInt, api.Wide{Hi: 1 << 62}},
		{math.MaxInt, math.MaxInt, api.Wide{Hi: 1<<62 - 1, Lo: 1}},
		{math.MinInt, math.MaxInt, api.Wide{Hi: -1 << 62, Lo: 1 << 63}},
		{-1, -1, api.Wide{Lo: 1}},
		{-1, 1, api.Wide{Hi: -1, Lo: math.MaxUint64}},
	} {
		for _, p := range [][2]int{{c.a, c.b}, {c.b, c.a}} {
			if got := wide.Mul(p[0], p[1]); got != c.product {
				t.Errorf("Mul(%d, %d): %v, want %v", p[0], p[1], got, c.product)
			}
		}
	}
}

func TestP4_1Cmp(t *testing.T) {
	for _, a := range numbers() {
		for _, b := range numbers() {
			if got, want := wide.Cmp(a, b), large(a).Cmp(large(b)); got != want {
				t.Errorf("Cmp(%v, %v): %d, want %d", a, b, got, want)
			}
		}
	}
}

// Hi has a sign and counts first; Lo has none.
func TestP4_1CmpInOrder(t *testing.T) {
	row := []api.Wide{
		least, {Hi: math.MinInt, Lo: math.MaxUint64}, {Hi: -2, Lo: 5}, {Hi: -1}, wide.Of(math.MinInt), wide.Of(-2), wide.Of(-1),
		wide.Of(0), wide.Of(1), wide.Of(math.MaxInt), {Lo: 1 << 63}, {Lo: math.MaxUint64}, {Hi: 1}, {Hi: math.MaxInt}, greatest,
	}
	for i, a := range row {
		for j, b := range row {
			want := 0
			if i < j {
				want = -1
			} else if i > j {
				want = 1
			}
			if got := wide.Cmp(a, b); got != want {
				t.Errorf("Cmp(%v, %v): %d, want %d", a, b, got, want)
			}
		}
	}
}

func TestP4_1Fits(t *testing.T) {
	for _, a := range numbers() {
		n, ok := wide.Fits(a)
		whole := large(a)
		if ok != whole.IsInt64() {
			t.Errorf("Fits(%v): %v", a, ok)
		} else if ok && int64(n) != whole.Int64() || !ok && n != 0 {
			t.Errorf("Fits(%v): %d", a, n)
		}
	}
}

func TestP4_1FitsAtTheEnds(t *testing.T) {
	for _, c := range []struct {
		a  api.Wide
		n  int
		ok bool
	}{
		{api.Wide{}, 0, true},
		{api.Wide{Hi: -1, Lo: math.MaxUint64}, -1, true},
		{api.Wide{Lo: 1<<63 - 1}, math.MaxInt, true},
		{api.Wide{Lo: 1 << 63}, 0, false},
		{api.Wide{Lo: math.MaxUint64}, 0, false},
		{api.Wide{Hi: -1, Lo: 1 << 63}, math.MinInt, true},
		{api.Wide{Hi: -1, Lo: 1<<63 - 1}, 0, false},
		{api.Wide{Hi: -1}, 0, false},
		{api.Wide{Hi: 1}, 0, false},
		{api.Wide{Hi: 1, Lo: 5}, 0, false},
		{api.Wide{Hi: -2, Lo: math.MaxUint64}, 0, false},
		{least, 0, false},
		{greatest, 0, false},
	} {
		if n, ok := wide.Fits(c.a); n != c.n || ok != c.ok {
			t.Errorf("Fits(%v): %d, %v, want %d, %v", c.a, n, ok, c.n, c.ok)
		}
	}
}

func TestP4_2Print(t *testing.T) {
	for text, a := range map[string]api.Wide{
		"0":                     {},
		"7":                     {Lo: 7},
		"-7":                    wide.Of(-7),
		"10":                    {Lo: 10},
		"-100":                  wide.Of(-100),
		"9223372036854775808":   {Lo: 1 << 63},
		"-9223372036854775808":  wide.Of(math.MinInt),
		"18446744073709551615":  {Lo: math.MaxUint64},
		"18446744073709551616":  {Hi: 1},
		"-18446744073709551616": wide.Mul(math.MinInt, 2),
		"-18446744073709551617": {Hi: -2, Lo: math.MaxUint64},
		leastText:               least,
		greatestText:            greatest,
	} {
		if got := wide.Print(a); got != text {
			t.Errorf("Print(%v): %q, want %q", a, got, text)
		}
	}
	for _, a := range append(numbers(), draws(3000)...) {
		if got, want := wide.Print(a), large(a).String(); got != want {
			t.Errorf("Print(%v): %q, want %q", a, got, want)
		}
	}
}

func TestP4_2Parse(t *testing.T) {
	for _, a := range append(numbers(), draws(3000)...) {
		text := large(a).String()
		if got, ok := wide.Parse(text); got != a || !ok {
			t.Errorf("Parse(%q): %v, %v, want %v", text, got, ok, a)
		}
	}
}

func wantNoParse(t *testing.T, s string) {
	t.Helper()
	if a, ok := wide.Parse(s); ok || a != (api.Wide{}) {
		t.Errorf("Parse(%.60q): %v, %v, want false", s, a, ok)
	}
}

func TestP4_2ParseOfNone(t *testing.T) {
	for _, s := range []string{
		"", "-", "+", "--", "-0", "+0", "00", "-00", "01", "-01", "007", "+1", "--1", "-+1", "1-", "1-1", "- 1",
		" 1", "1 ", "1\n", "\x001", "1\x00", "1_000", "1,000", "1.0", "1e3", "0x10", "0b1", "a", "1a", "a1",
		"/", ":", "1/", "1:", "\xff", "1\xff", "-\xb2", "\u0661", "\uff11", "\u22121", "1\u00b2", "NaN",
	} {
		wantNoParse(t, s)
	}
}

// A digit in a number's place becomes each other byte in turn.
func TestP4_2ParseOfOtherBytes(t *testing.T) {
	for c := range 256 {
		if c >= '0' && c <= '9' {
			continue
		}
		for _, place := range []int{0, 1, 5, 38} {
			b := []byte(greatestText)
			b[place] = byte(c)
			if place > 0 || c != '-' {
				wantNoParse(t, string(b))
			}
			wantNoParse(t, "-"+string(b))
			wantNoParse(t, string([]byte{byte(c)}))
		}
	}
}

// Numbers just past the ends, those that come back as others modulo 2^64, 2^127 and 2^128, and those with more digits.
func TestP4_2ParsePastTheEnds(t *testing.T) {
	for _, bit := range []uint{127, 128, 129, 130, 131, 132, 191, 192, 193, 256, 1000} {
		for k := int64(-3); k <= 3; k++ {
			n := new(big.Int).Add(power(bit), big.NewInt(k))
			if _, ok := of(n); !ok {
				wantNoParse(t, n.String())
			}
			n.Neg(n)
			if _, ok := of(n); !ok {
				wantNoParse(t, n.String())
			}
		}
	}
	for lead := int64(1); lead < 200; lead++ { // each carry out of 128 bits that 39 and 40 digits give
		for _, digits := range []int64{38, 39, 40} {
			n := new(big.Int).Exp(big.NewInt(10), big.NewInt(digits), nil)
			n.Mul(n, big.NewInt(lead))
			n.Add(n, big.NewInt(lead))
			got, ok := wide.Parse(n.String())
			check(t, "Parse", got, ok, n, n)
		}
	}
	for count := 38; count <= 45; count++ {
		wantNoParse(t, "9"+strings.Repeat("9", count))
		wantNoParse(t, "-9"+strings.Repeat("9", count))
	}
}

// Numbers with zeros ahead, however many, are the Print of none.
func TestP4_2ParseOfZerosAhead(t *testing.T) {
	for _, a := range numbers() {
		digits, sign := large(a).String(), ""
		if digits[0] == '-' {
			digits, sign = digits[1:], "-"
		}
		for _, zeros := range []int{1, 2, 39, 100} {
			wantNoParse(t, sign+strings.Repeat("0", zeros)+digits)
		}
		wantNoParse(t, "+"+digits)
	}
	wantNoParse(t, strings.Repeat("0", 1<<20))
	wantNoParse(t, strings.Repeat("0", 1<<20)+"1")
	wantNoParse(t, strings.Repeat("1", 1<<20))
	wantNoParse(t, strings.Repeat("-", 1<<20))
}

// What is parsed is what is printed: of all short texts of some bytes.
func TestP4_2ParseOfShortTexts(t *testing.T) {
	const alphabet = "-+ 019a"
	var down func(s string)
	down = func(s string) {
		n, good := new(big.Int).SetString(s, 10)
		good = good && n.String() == s
		a, ok := wide.Parse(s)
		if ok != good {
			t.Errorf("Parse(%q): %v", s, ok)
		} else if ok {
			check(t, "Parse", a, ok, n, s)
		}
		if len(s) == 5 {
			return
		}
		for _, c := range alphabet {
			down(s + string(c))
		}
	}
	down("")
}

func TestP4_3Laws(t *testing.T) {
	for _, a := range numbers() {
		for _, b := range numbers() {
			sum, ok := wide.Add(a, b)
			other, otherOk := wide.Add(b, a)
			if sum != other || ok != otherOk {
				t.Errorf("Add(%v, %v): %v, %v, the other way round %v, %v", a, b, sum, ok, other, otherOk)
			}
			if ok {
				wantSub(t, sum, b, a)
				wantSub(t, sum, a, b)
			}
		}
	}
}

func wantSub(t *testing.T, a, b, want api.Wide) {
	t.Helper()
	if got, ok := wide.Sub(a, b); got != want || !ok {
		t.Errorf("Sub(%v, %v): %v, %v, want %v", a, b, got, ok, want)
	}
}

func TestP4_3ThereAndBack(t *testing.T) {
	for _, a := range append(numbers(), draws(3000)...) {
		if back, ok := wide.Parse(wide.Print(a)); back != a || !ok {
			t.Errorf("Parse of Print(%v): %v, %v", a, back, ok)
		}
	}
	for _, n := range ints() {
		if back, ok := wide.Fits(wide.Of(n)); back != n || !ok {
			t.Errorf("Fits of Of(%d): %d, %v", n, back, ok)
		}
	}
}
