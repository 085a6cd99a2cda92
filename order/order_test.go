package order_test

import (
	"fmt"
	"math"
	"math/big"
	"slices"
	"strings"
	"testing"

	"talus/order"
)

// The bits of floats, written out.
const (
	oneNan   = 0x7ff8000000000000
	infinite = 0x7ff0000000000000
	minus    = -1 << 63 // the sign bit
	negInf   = minus | infinite
	one      = 0x3ff0000000000000
	greatest = infinite - 1 // of the finite ones
	fraction = 1<<52 - 1
)

// parts: the three of a float, as the chapter names them, without a float64.
func parts(n int) (negative bool, exponent, rest int) {
	return n < 0, n >> 52 & 0x7ff, n & fraction
}

func isNan(n int) bool {
	_, exponent, rest := parts(n)
	return exponent == 0x7ff && rest != 0
}

func isInfinite(n int) bool {
	_, exponent, rest := parts(n)
	return exponent == 0x7ff && rest == 0
}

func canon(n int) int {
	switch {
	case isNan(n):
		return oneNan
	case n == minus:
		return 0
	}
	return n
}

// exact: the number that a finite float is, of any length, reckoned from its parts, in steps of 2^-1074.
func exact(n int) *big.Int {
	negative, exponent, rest := parts(n)
	steps := big.NewInt(int64(rest))
	if exponent > 0 {
		steps.Add(steps, big.NewInt(1<<52))
		steps.Lsh(steps, uint(exponent-1))
	}
	if negative {
		steps.Neg(steps)
	}
	return steps
}

// class: where a float stands: -infinity, numbers, +infinity, NaN.
func class(n int) int {
	switch {
	case isNan(n):
		return 2
	case isInfinite(n) && n > 0:
		return 1
	case isInfinite(n):
		return -1
	}
	return 0
}

func compare(a, b int) int {
	switch {
	case class(a) < class(b):
		return -1
	case class(a) > class(b):
		return 1
	case class(a) != 0:
		return 0
	}
	return exact(a).Cmp(exact(b))
}

// edges are bits at which a sign, an exponent or a fraction ends, with both signs.
func edges() []int {
	var l []int
	around := func(n int) {
		for k := -2; k <= 2; k++ {
			l = append(l, n+k, (n+k)^minus)
		}
	}
	for _, exponent := range []int{0, 1, 2, 0x3fe, 0x3ff, 0x400, 0x432, 0x433, 0x434, 0x7fd, 0x7fe, 0x7ff} {
		around(exponent << 52)
		around(exponent<<52 | 1<<51)
		around(exponent<<52 | fraction)
	}
	for bit := range 64 {
		around(1 << bit)
	}
	for _, f := range []float64{1, 1.5, 0.1, 3, 10, math.Pi, 1 << 53, 1e300, 1e-300, 1e-310, math.MaxFloat64, math.SmallestNonzeroFloat64} {
		around(int(math.Float64bits(f)))
	}
	return l
}

// draws tells numbers that look thrown, the same ones each time, of all lengths in bits and both signs.
func draws(n int) []int {
	var l []int
	state := uint64(1)
	for range n {
		state = state*6364136223846793005 + 1442695040888963407
		u := state ^ state>>29
		l = append(l, int(u), int(u>>(state>>58)))
	}
	return l
}

func numbers() []int { return append(edges(), draws(200)...) }

func nans() []int {
	l := []int{oneNan, oneNan | minus, infinite | 1, negInf | 1, infinite | fraction, negInf | fraction, -1, math.MaxInt}
	for bit := range 52 {
		l = append(l, infinite|1<<bit, negInf|1<<bit)
	}
	return l
}

func wantInt(t *testing.T, what string, got, want int, args ...int) {
	t.Helper()
	if got != want {
		t.Errorf("%s of %#x: %#x, want %#x", what, args, got, want)
	}
}

func wantKey(t *testing.T, what string, got, want uint64, args ...int) {
	t.Helper()
	if got != want {
		t.Errorf("%s of %#x: %#x, want %#x", what, args, got, want)
	}
}

func wantTruth(t *testing.T, what string, got, want bool, args ...int) {
	t.Helper()
	if got != want {
		t.Errorf("%s of %#x: %v, want %v", what, args, got, want)
	}
}

func TestP5_1Canon(t *testing.T) {
	for n, want := range map[int]int{
		minus:             0,
		0:                 0,
		1:                 1,
		minus | 1:         minus | 1,
		one:               one,
		minus | one:       minus | one,
		infinite:          infinite,
		negInf:            negInf,
		greatest:          greatest,
		minus | greatest:  minus | greatest,
		oneNan:            oneNan,
		minus | oneNan:    oneNan,
		infinite | 1:      oneNan,
		negInf | 1:        oneNan,
		-1:                oneNan,
		math.MaxInt:       oneNan,
		fraction:          fraction,
		minus | fraction:  minus | fraction,
		minus | (1 << 52): minus | (1 << 52),
	} {
		wantInt(t, "Canon", order.Canon(n), want, n)
	}
	for _, n := range numbers() {
		wantInt(t, "Canon", order.Canon(n), canon(n), n)
	}
	for _, n := range nans() {
		wantInt(t, "Canon", order.Canon(n), oneNan, n)
	}
}

func TestP5_1Good(t *testing.T) {
	for n, want := range map[int]bool{
		0: true, minus: false, oneNan: true, minus | oneNan: false, oneNan + 1: false, oneNan - 1: false,
		infinite: true, negInf: true, infinite + 1: false, negInf + 1: false, greatest: true, minus | greatest: true,
		1: true, minus | 1: true, one: true, minus | one: true, -1: false, math.MaxInt: false,
	} {
		wantTruth(t, "Good", order.Good(n), want, n)
	}
	for _, n := range numbers() {
		wantTruth(t, "Good", order.Good(n), canon(n) == n, n)
		wantTruth(t, "Good of Canon", order.Good(order.Canon(n)), true, n)
	}
	for _, n := range nans() {
		wantTruth(t, "Good", order.Good(n), n == oneNan, n)
	}
}

func TestP5_1Nan(t *testing.T) {
	for n, want := range map[int]bool{
		0: false, minus: false, oneNan: true, infinite: false, negInf: false, greatest: false, minus | greatest: false,
		infinite + 1: true, negInf + 1: true, -1: true, math.MaxInt: true, one: false, 1: false, minus | 1: false,
	} {
		wantTruth(t, "Nan", order.Nan(n), want, n)
	}
	for _, n := range numbers() {
		wantTruth(t, "Nan", order.Nan(n), isNan(n), n)
	}
	for _, n := range nans() {
		wantTruth(t, "Nan", order.Nan(n), true, n)
	}
}

// key: by sums, not by bits: of floats below 0 the keys go down from 2^63 - 1.
func key(n int) uint64 {
	n = canon(n)
	switch {
	case n == oneNan:
		return math.MaxUint64
	case n < 0:
		return 1<<63 - 1 - uint64(n-minus)
	}
	return 1<<63 + uint64(n)
}

func TestP5_2Key(t *testing.T) {
	for n, want := range map[int]uint64{
		negInf:           0x000fffffffffffff,
		minus | greatest: 0x0010000000000000,
		minus | one:      0x400fffffffffffff,
		minus | 1:        0x7ffffffffffffffe,
		minus:            1 << 63,
		0:                1 << 63,
		1:                1<<63 + 1,
		one:              0xbff0000000000000,
		greatest:         0xffefffffffffffff,
		infinite:         0xfff0000000000000,
		infinite + 1:     math.MaxUint64,
		oneNan:           math.MaxUint64,
		-1:               math.MaxUint64,
		negInf + 1:       math.MaxUint64,
	} {
		wantKey(t, "Key", order.Key(n), want, n)
	}
	for _, n := range append(numbers(), nans()...) {
		wantKey(t, "Key", order.Key(n), key(n), n)
	}
}

func TestP5_2Back(t *testing.T) {
	for k, want := range map[uint64]int{
		0:                  0, // would be a NaN
		0x000ffffffffffffe: 0, // a NaN with the sign bit
		0x000fffffffffffff: negInf,
		0x0010000000000000: minus | greatest,
		0x400fffffffffffff: minus | one,
		1<<63 - 2:          minus | 1,
		1<<63 - 1:          0, // would be -0
		1 << 63:            0,
		1<<63 + 1:          1,
		0xbff0000000000000: one,
		0xffefffffffffffff: greatest,
		0xfff0000000000000: infinite,
		0xfff0000000000001: 0,
		0xfff8000000000000: 0, // the good NaN with its highest bit set
		math.MaxUint64 - 1: 0,
		math.MaxUint64:     oneNan,
	} {
		wantInt(t, "Back", order.Back(k), want, int(k))
	}
	for _, n := range append(numbers(), nans()...) {
		wantInt(t, "Back of Key", order.Back(order.Key(n)), canon(n), n)
	}
}

// Each number is the key of the good float that Back tells, or of none.
func TestP5_2BackOfAnyNumber(t *testing.T) {
	for _, n := range append(numbers(), nans()...) {
		for _, k := range []uint64{uint64(n), ^uint64(n), key(n) - 1, key(n) + 1} {
			got := order.Back(k)
			if k >= 0x000fffffffffffff && k <= 0xfff0000000000000 && k != 1<<63-1 || k == math.MaxUint64 {
				wantKey(t, "Key of Back", order.Key(got), k, int(k))
			} else {
				wantInt(t, "Back of no key", got, 0, int(k))
			}
			wantTruth(t, "Good of Back", order.Good(got), true, int(k))
		}
	}
}

func TestP5_2IntKey(t *testing.T) {
	for n, want := range map[int]uint64{
		math.MinInt: 0, math.MinInt + 1: 1, -1: 1<<63 - 1, 0: 1 << 63, 1: 1<<63 + 1, math.MaxInt: math.MaxUint64,
		oneNan: 0xfff8000000000000, // nothing is canonical of ints
	} {
		wantKey(t, "IntKey", order.IntKey(n), want, n)
		wantInt(t, "IntBack", order.IntBack(want), n, int(want))
	}
	for _, n := range numbers() {
		k := order.IntKey(n)
		wantKey(t, "IntKey", k, uint64(n-math.MinInt), n) // how far from the least
		wantInt(t, "IntBack of IntKey", order.IntBack(k), n, n)
		wantKey(t, "IntKey of IntBack", order.IntKey(order.IntBack(uint64(n))), uint64(n), n)
	}
}

func TestP5_2IntKeyInOrder(t *testing.T) {
	l := numbers()
	slices.Sort(l)
	l = slices.Compact(l)
	for i, n := range l[1:] {
		wantTruth(t, "IntKey in order", order.IntKey(l[i]) < order.IntKey(n), true, l[i], n)
	}
}

func turn(below, above bool) int {
	switch {
	case below:
		return -1
	case above:
		return 1
	}
	return 0
}

func TestP5_2CmpInOrder(t *testing.T) {
	row := []int{
		negInf, minus | greatest, minus | one, minus | (1 << 52), minus | fraction, minus | 1,
		0, 1, fraction, 1 << 52, one - 1, one, one + 1, greatest, infinite, oneNan,
	}
	for i, a := range row {
		for j, b := range row {
			wantInt(t, "Cmp", order.Cmp(a, b), turn(i < j, i > j), a, b)
		}
	}
}

func TestP5_2Cmp(t *testing.T) {
	l := numbers()
	for _, a := range l {
		for _, b := range l[:200] {
			got := order.Cmp(a, b)
			wantInt(t, "Cmp as the Keys", got, turn(key(a) < key(b), key(a) > key(b)), a, b)
			wantInt(t, "Cmp turned", order.Cmp(b, a), -got, b, a)
		}
	}
}

// The model of the order does not know of keys.
func TestP5_2CmpByExactNumbers(t *testing.T) {
	l := append(edges()[:120], draws(30)...)
	for _, a := range l {
		for _, b := range l {
			wantInt(t, "Cmp", order.Cmp(a, b), compare(a, b), a, b)
		}
	}
}

// All NaNs are alike, and above all else.
func TestP5_2CmpOfNans(t *testing.T) {
	for _, a := range nans() {
		for _, b := range nans() {
			wantInt(t, "Cmp", order.Cmp(a, b), 0, a, b)
		}
		for _, b := range []int{negInf, minus | greatest, minus, 0, 1, one, greatest, infinite} {
			wantInt(t, "Cmp", order.Cmp(a, b), 1, a, b)
			wantInt(t, "Cmp", order.Cmp(b, a), -1, b, a)
		}
	}
}

func TestP5_3Print(t *testing.T) {
	for n, want := range map[int]string{
		0:                  "0f0000000000000000",
		minus:              "0f0000000000000000",
		1:                  "0f0000000000000001",
		minus | 1:          "0f8000000000000001",
		one:                "0f3ff0000000000000",
		minus | one:        "0fbff0000000000000",
		0x0123456789abcdef: "0f0123456789abcdef",
		greatest:           "0f7fefffffffffffff",
		minus | greatest:   "0fffefffffffffffff",
		infinite:           "INF",
		negInf:             "-INF",
		infinite + 1:       "NAN",
		negInf + 1:         "NAN",
		oneNan:             "NAN",
		-1:                 "NAN",
	} {
		if got := order.Print(n); got != want {
			t.Errorf("Print(%#x): %q, want %q", n, got, want)
		}
	}
	for _, n := range append(numbers(), nans()...) {
		if got := order.Print(n); got != text(n) {
			t.Errorf("Print(%#x): %q, want %q", n, got, text(n))
		}
	}
}

func text(n int) string {
	switch {
	case isNan(n):
		return "NAN"
	case n == infinite:
		return "INF"
	case n == negInf:
		return "-INF"
	}
	return fmt.Sprintf("0f%016x", uint64(canon(n)))
}

func TestP5_3Parse(t *testing.T) {
	for s, want := range map[string]int{
		"0f0000000000000000": 0,
		"0f0000000000000001": 1,
		"0f8000000000000001": minus | 1,
		"0f3ff0000000000000": one,
		"0f0123456789abcdef": 0x0123456789abcdef,
		"0f7fefffffffffffff": greatest,
		"0fffefffffffffffff": minus | greatest,
		"INF":                infinite,
		"-INF":               negInf,
		"NAN":                oneNan,
	} {
		if got, ok := order.Parse(s); got != want || !ok {
			t.Errorf("Parse(%q): %#x, %v, want %#x", s, got, ok, want)
		}
	}
	for _, n := range append(numbers(), nans()...) {
		if got, ok := order.Parse(text(n)); got != canon(n) || !ok {
			t.Errorf("Parse(%q): %#x, %v, want %#x", text(n), got, ok, canon(n))
		}
	}
}

func wantNoParse(t *testing.T, s string) {
	t.Helper()
	if n, ok := order.Parse(s); ok || n != 0 {
		t.Errorf("Parse(%.60q): %#x, %v, want false", s, n, ok)
	}
}

func TestP5_3ParseOfNone(t *testing.T) {
	for _, s := range []string{
		"", "0", "0f", "f", "1", "-", "3ff0000000000000", "1.0", "0.5", "1e3",
		"nan", "NaN", "Nan", "-NAN", "+NAN", " NAN", "NAN ", "NANN", "NA", "N",
		"inf", "Inf", "+INF", "-inf", "--INF", "INF ", " INF", "- INF", "INFINITY", "INFINF", "-",
		"0F3ff0000000000000", "0x3ff0000000000000", "0b3ff0000000000000", "003ff0000000000000", "0f0f3ff0000000000000",
		"0f3FF0000000000000", "0f0123456789ABCDEF", "0f0123456789abcdeF",
		"0f3ff000000000000", "0f1", "0f3ff", "0f3ff00000000000000", "0f03ff0000000000000", "0f13ff0000000000000",
		"0f00000000000000000", "0f000000000000000", "0f0000000000000000 ", " 0f0000000000000000", "-0f3ff0000000000000",
		"+0f3ff0000000000000", "0f+3ff000000000000", "0f-3ff000000000000", "0f 3ff000000000000", "0f3ff0_0000_0000_0",
		"0f3ff0000000000000\x00", "0f3ff000000000000\xff", "0f3ff000000000000g", "0f3ff000000000000/", "0f3ff000000000000:",
		"0f3ff000000000000`", "0f3ff000000000000@", "0f3ff000000000000G", "0f\u0663ff00000000000000", "0f\uff13ff000000000000",
		"0f8000000000000000",                       // -0
		"0f7ff0000000000000", "0ffff0000000000000", // infinite
		"0f7ff8000000000000", "0ffff8000000000000", "0f7ff0000000000001", "0f7fffffffffffffff", "0fffffffffffffffff", // NaNs
		"0'3ff0000000000000", "'0f3ff0000000000000'", "\xff", "\x00",
		"0f" + strings.Repeat("0", 100000), "0f" + strings.Repeat("f", 100000), strings.Repeat("NAN", 100000),
	} {
		wantNoParse(t, s)
	}
	for _, n := range nans() {
		wantNoParse(t, fmt.Sprintf("0f%016x", uint64(n)))
	}
}

// printed: is it the text of some good float? -0, what is infinite and NaNs have no digits.
func printed(s string) bool {
	if s == "NAN" || s == "INF" || s == "-INF" {
		return true
	}
	if len(s) != 18 || s[:2] != "0f" || strings.Trim(s[2:], "0123456789abcdef") != "" {
		return false
	}
	return s != "0f8000000000000000" && s[2:5] != "7ff" && s[2:5] != "fff"
}

// Texts that are one byte away from those of floats are taken where they are such texts, too.
func TestP5_3ParseOfTextsNearby(t *testing.T) {
	try := func(s string) {
		n, ok := order.Parse(s)
		if ok != printed(s) || ok && order.Print(n) != s || !order.Good(n) || !ok && n != 0 {
			t.Errorf("Parse(%q): %#x, %v", s, n, ok)
		}
	}
	for _, n := range []int{0, 1, minus | 1, one, minus | one, greatest, minus | greatest, infinite, negInf, oneNan, fraction, 0x0123456789abcdef} {
		s := text(n)
		for i := range len(s) {
			try(s[:i] + s[i+1:])
			for c := range 256 {
				try(s[:i] + string([]byte{byte(c)}) + s[i+1:])
				try(s[:i] + string([]byte{byte(c)}) + s[i:])
			}
		}
		for c := range 256 {
			try(s + string([]byte{byte(c)}))
		}
	}
}

func TestP5_4CmpAsFloatsAre(t *testing.T) {
	for _, a := range numbers() {
		for _, b := range numbers() {
			if isNan(a) || isNan(b) {
				continue
			}
			f, g := math.Float64frombits(uint64(a)), math.Float64frombits(uint64(b))
			if got := order.Cmp(a, b); (got < 0) != (f < g) || (got > 0) != (f > g) || (got == 0) != (f == g) {
				t.Errorf("Cmp(%g, %g): %d", f, g, got)
			}
		}
	}
}

func TestP5_4ZerosAreAlike(t *testing.T) {
	for _, a := range []int{0, minus} {
		for _, b := range []int{0, minus} {
			wantInt(t, "Cmp", order.Cmp(a, b), 0, a, b)
		}
		wantInt(t, "Cmp", order.Cmp(a, 1), -1, a, 1)
		wantInt(t, "Cmp", order.Cmp(a, minus|1), 1, a, minus|1)
		wantKey(t, "Key", order.Key(a), 1<<63, a)
	}
}

// A bit that is turned, anywhere: no other float has the key.
func TestP5_4BackOfKeyIsCanon(t *testing.T) {
	for _, n := range append(numbers(), nans()...) {
		for bit := range 64 {
			m := n ^ 1<<bit
			wantInt(t, "Back of Key", order.Back(order.Key(m)), order.Canon(m), m)
			wantTruth(t, "alike by Key", order.Key(m) == order.Key(n), canon(m) == canon(n), m, n)
		}
	}
}
