package field_test

import (
	"math"
	"math/big"
	"testing"

	"talus/api"
	"talus/field"
)

// prime is P, written out, so that a wrong field.P is seen.
const prime uint64 = 2305843009213693951

// edges are numbers at which a length in bits, a rest modulo P or a word ends.
func edges() []uint64 {
	l := []uint64{0, 3, 5, 6, 7}
	for bit := range 64 {
		u := uint64(1) << bit
		l = append(l, u-1, u, u+1)
	}
	for k := range uint64(9) { // 8 times P is the last one below 2^64
		u := k * prime
		l = append(l, u-1, u, u+1)
	}
	for k := range uint64(20) { // numbers whose products have both halves full
		l = append(l, prime-1-k, math.MaxUint64-k)
	}
	return l
}

// draws tells numbers that look thrown, the same ones each time, of all lengths in bits.
func draws(n int) []uint64 {
	var l []uint64
	state := uint64(1)
	for range n {
		state = state*6364136223846793005 + 1442695040888963407
		u := state ^ state>>29
		l = append(l, u>>(state>>58))
	}
	return l
}

func numbers() []uint64 { return append(edges(), draws(60)...) }

func large(u uint64) *big.Int { return new(big.Int).SetUint64(u) }

// rest: of a large number, modulo P.
func rest(x *big.Int) uint64 { return new(big.Int).Mod(x, large(prime)).Uint64() }

func times(a, b uint64) *big.Int { return new(big.Int).Mul(large(a), large(b)) }

func want(t *testing.T, what string, got, want uint64, args ...uint64) {
	t.Helper()
	if got != want {
		t.Errorf("%s of %v: %d, want %d", what, args, got, want)
	}
}

func wantOk(t *testing.T, what string, got, ok bool, args ...uint64) {
	t.Helper()
	if got != ok {
		t.Errorf("%s of %v: %v, want %v", what, args, got, ok)
	}
}

func TestPrime(t *testing.T) {
	want(t, "P", field.P, prime)
	var whole int = field.P // P has no type of its own
	want(t, "P", uint64(whole), prime)
}

func TestP3_1Good(t *testing.T) {
	wantOk(t, "Good", field.Good(0), true, 0)
	wantOk(t, "Good", field.Good(prime-1), true, prime-1)
	wantOk(t, "Good", field.Good(prime), false, prime)
	wantOk(t, "Good", field.Good(math.MaxUint64), false, math.MaxUint64)
	for _, x := range numbers() {
		wantOk(t, "Good", field.Good(x), x < prime, x)
	}
}

func TestP3_1Of(t *testing.T) {
	want(t, "Of", field.Of(prime-1), prime-1, prime-1)
	want(t, "Of", field.Of(prime), 0, prime)
	want(t, "Of", field.Of(8*prime), 0, 8*prime)
	want(t, "Of", field.Of(math.MaxUint64), 7, math.MaxUint64)
	for _, x := range numbers() {
		want(t, "Of", field.Of(x), x%prime, x)
	}
}

func TestP3_1Add(t *testing.T) {
	want(t, "Add", field.Add(prime-1, 1), 0, prime-1, 1)
	want(t, "Add", field.Add(prime-1, prime-1), prime-2, prime-1, prime-1)
	want(t, "Add", field.Add(math.MaxUint64, math.MaxUint64), 14, math.MaxUint64, math.MaxUint64)
	for _, a := range numbers() {
		for _, b := range numbers() {
			want(t, "Add", field.Add(a, b), rest(new(big.Int).Add(large(a), large(b))), a, b)
		}
	}
}

func TestP3_1Mul(t *testing.T) {
	want(t, "Mul", field.Mul(1<<60, 2), 1, 1<<60, 2)
	want(t, "Mul", field.Mul(prime-1, prime-1), 1, prime-1, prime-1)
	want(t, "Mul", field.Mul(math.MaxUint64, math.MaxUint64), 49, math.MaxUint64, math.MaxUint64)
	for _, a := range numbers() {
		for _, b := range numbers() {
			want(t, "Mul", field.Mul(a, b), rest(times(a, b)), a, b)
		}
	}
}

// All products of powers of 2, whose exponents add up modulo 61: each bit of a product comes down where it should.
func TestP3_1MulOfPowersOf2(t *testing.T) {
	for i := range 64 {
		for j := range 64 {
			a, b := uint64(1)<<i, uint64(1)<<j
			want(t, "Mul", field.Mul(a, b), 1<<((i+j)%61), a, b)
		}
	}
}

// A power is what so many factors give, one by one.
func TestP3_1PowByFactors(t *testing.T) {
	for _, a := range numbers() {
		product := uint64(1)
		for k := range uint64(70) {
			want(t, "Pow", field.Pow(a, k), product, a, k)
			product = rest(times(product, a%prime))
		}
	}
}

// The exponent is not taken modulo anything.
func TestP3_1PowOfLargeExponents(t *testing.T) {
	for _, a := range numbers() {
		for _, k := range edges() {
			power := new(big.Int).Exp(large(a), large(k), large(prime))
			want(t, "Pow", field.Pow(a, k), power.Uint64(), a, k)
		}
	}
}

func TestP3_1PowAtItsEnds(t *testing.T) {
	for _, zero := range []uint64{0, prime, 8 * prime} {
		want(t, "Pow", field.Pow(zero, 0), 1, zero, 0)
		want(t, "Pow", field.Pow(zero, 1), 0, zero, 1)
		want(t, "Pow", field.Pow(zero, prime-1), 0, zero, prime-1)
		want(t, "Pow", field.Pow(zero, prime), 0, zero, prime)
		want(t, "Pow", field.Pow(zero, math.MaxUint64), 0, zero, math.MaxUint64)
	}
	for _, a := range numbers() {
		if a%prime != 0 {
			want(t, "Pow", field.Pow(a, prime-1), 1, a, prime-1)
			want(t, "Pow", field.Pow(a, prime), a%prime, a, prime)
		}
	}
}

func TestP3_1Inverse(t *testing.T) {
	half, ok := field.Inverse(2)
	wantOk(t, "Inverse", ok, true, 2)
	want(t, "Inverse", half, 1<<60, 2)
	for _, a := range numbers() {
		i, ok := field.Inverse(a)
		wantOk(t, "Inverse", ok, a%prime != 0, a)
		if !ok {
			want(t, "Inverse", i, 0, a)
			continue
		}
		want(t, "Inverse", i, new(big.Int).ModInverse(large(a), large(prime)).Uint64(), a)
		want(t, "Mul with Inverse", field.Mul(i, a), 1, i, a)
	}
}

// Numbers that are 0 modulo P have none, whatever they are.
func TestP3_1InverseOfNone(t *testing.T) {
	for k := range uint64(9) {
		i, ok := field.Inverse(k * prime)
		wantOk(t, "Inverse", ok, false, k*prime)
		want(t, "Inverse", i, 0, k*prime)
	}
}

func TestP3_2Hash(t *testing.T) {
	want(t, "Hash", field.Hash(api.Seed{A: 1, B: 5}, prime-1), 4, 1, 5, prime-1)
	want(t, "Hash", field.Hash(api.Seed{A: 2, B: 3}, 10), 23, 2, 3, 10)
	want(t, "Hash", field.Hash(api.Seed{}, 10), 0, 0, 0, 10)
	few := append(edges()[:40], prime-1, prime, prime+1, 8*prime, math.MaxUint64)
	for _, a := range numbers() {
		for _, b := range few {
			for _, x := range few {
				sum := new(big.Int).Add(times(a, x), large(b))
				want(t, "Hash", field.Hash(api.Seed{A: a, B: b}, x), rest(sum), a, b, x)
			}
		}
	}
}

func TestP3_2MulDiv(t *testing.T) {
	for _, a := range numbers() {
		for _, b := range edges() {
			for _, c := range []uint64{1, 2, 3, 8, 1<<32 - 1, 1 << 61, prime, 1 << 63, math.MaxUint64, a, b, a + 1, b + 1} {
				checkMulDiv(t, a, b, c)
			}
		}
	}
}

func checkMulDiv(t *testing.T, a, b, c uint64) {
	t.Helper()
	got, ok := field.MulDiv(a, b, c)
	if c == 0 {
		wantOk(t, "MulDiv", ok, false, a, b, c)
		want(t, "MulDiv", got, 0, a, b, c)
		return
	}
	q := new(big.Int).Quo(times(a, b), large(c))
	wantOk(t, "MulDiv", ok, q.IsUint64(), a, b, c)
	if q.IsUint64() {
		want(t, "MulDiv", got, q.Uint64(), a, b, c)
	} else {
		want(t, "MulDiv", got, 0, a, b, c)
	}
}

func TestP3_2MulDivAtItsEnds(t *testing.T) {
	const end = math.MaxUint64
	for _, c := range []struct {
		a, b, c, q uint64
		ok         bool
	}{
		{1 << 63, 6, 3, 0, false},
		{1 << 63, 6, 8, 3 << 61, true},
		{0, 0, 0, 0, false},
		{7, 5, 0, 0, false},
		{end, end, 0, 0, false},
		{0, 0, 1, 0, true},
		{end, 1, 1, end, true},
		{end, end, end, end, true},
		{end, end, end - 1, 0, false}, // 2^64, and a rest
		{end, end - 1, end, end - 1, true},
		{1 << 32, 1 << 32, 1, 0, false}, // 2^64: the least that is above
		{1<<32 + 1, 1<<32 - 1, 1, end, true},
		{1 << 63, 2, 1, 0, false},
		{end, 2, 3, 2 * (end / 3), true},
		{7, 3, 2, 10, true}, // the rest is left out
		{1, 1, 2, 0, true},
		{prime, prime, prime, prime, true}, // nothing is taken modulo P
	} {
		q, ok := field.MulDiv(c.a, c.b, c.c)
		wantOk(t, "MulDiv", ok, c.ok, c.a, c.b, c.c)
		want(t, "MulDiv", q, c.q, c.a, c.b, c.c)
	}
}

func TestP3_3Laws(t *testing.T) {
	few := append([]uint64{0, 1, 2, prime - 2, prime - 1, prime, prime + 1, 8 * prime, math.MaxUint64}, draws(30)...)
	for _, a := range few {
		want(t, "Add", field.Add(a, 0), field.Of(a), a, 0)
		want(t, "Mul", field.Mul(a, 1), field.Of(a), a, 1)
		want(t, "Add", field.Add(a, field.Mul(a, prime-1)), 0, a)
		for _, b := range few {
			want(t, "Add", field.Add(a, b), field.Add(b, a), a, b)
			want(t, "Mul", field.Mul(a, b), field.Mul(b, a), a, b)
			wantOk(t, "Good", field.Good(field.Add(a, b)) && field.Good(field.Mul(a, b)), true, a, b)
			wantOk(t, "Mul is 0", field.Mul(a, b) == 0, a%prime == 0 || b%prime == 0, a, b)
			for _, c := range few {
				want(t, "Add, twice", field.Add(field.Add(a, b), c), field.Add(a, field.Add(b, c)), a, b, c)
				want(t, "Mul, twice", field.Mul(field.Mul(a, b), c), field.Mul(a, field.Mul(b, c)), a, b, c)
				want(t, "Mul of a sum", field.Mul(a, field.Add(b, c)), field.Add(field.Mul(a, b), field.Mul(a, c)), a, b, c)
			}
		}
	}
}

func TestP3_3UnlikeHashes(t *testing.T) {
	for _, a := range numbers() {
		if a%prime == 0 {
			continue
		}
		s := api.Seed{A: a, B: 3 * a}
		from := map[uint64]uint64{}
		for _, x := range numbers() {
			if x >= prime {
				continue
			}
			h := field.Hash(s, x)
			if y, ok := from[h]; ok && y != x {
				t.Errorf("seed %v: %d and %d have the hash %d", s, x, y, h)
			}
			wantOk(t, "Good", field.Good(h), true, h)
			from[h] = x
		}
	}
}

// A number comes back from its hash, so that no two numbers share one.
func TestP3_3NumberFromHash(t *testing.T) {
	for _, a := range numbers() {
		i, ok := field.Inverse(a)
		if !ok {
			continue
		}
		s := api.Seed{A: a, B: 77}
		for _, x := range numbers() {
			back := field.Mul(field.Add(field.Hash(s, x), prime-77), i)
			want(t, "number from Hash", back, x%prime, a, x)
		}
	}
}

// Where A is 0 modulo P, B alone counts.
func TestP3_3HashWithoutA(t *testing.T) {
	for k := range uint64(9) {
		for _, x := range numbers() {
			want(t, "Hash", field.Hash(api.Seed{A: k * prime, B: math.MaxUint64}, x), 7, k*prime, x)
		}
	}
}
