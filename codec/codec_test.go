package codec_test

import (
	"bytes"
	"encoding/binary"
	"hash/crc32"
	"math"
	"math/big"
	"slices"
	"strings"
	"testing"

	"talus/api"
	"talus/codec"
)

const most = 100000 // numbers that Unpack and Unruns read

// draws tells numbers that look thrown, the same ones each time: of all lengths in bits.
func draws() func() uint64 {
	state := uint64(1)
	return func() uint64 {
		state = state*6364136223846793005 + 1442695040888963407
		u := state ^ state>>29
		return u >> (state >> 58)
	}
}

// edges are numbers at which a length in bits or in digits changes.
func edges() []uint64 {
	l := []uint64{0}
	for bit := range 64 {
		u := uint64(1) << bit
		l = append(l, u-1, u, u+1)
	}
	return append(l, math.MaxUint64-1, math.MaxUint64)
}

func edgeInts() []int {
	var l []int
	for _, u := range edges() {
		l = append(l, int(u), -int(u))
	}
	return append(l, math.MinInt, math.MaxInt)
}

// allBytes tells each list of up to so many bytes of an alphabet.
func allBytes(alphabet []byte, most int, tell func(b []byte)) {
	var down func(b []byte)
	down = func(b []byte) {
		tell(slices.Clone(b))
		if len(b) == most {
			return
		}
		for _, c := range alphabet {
			down(append(slices.Clone(b), c))
		}
	}
	down(nil)
}

func wantBytes(t *testing.T, what string, got, want []byte) {
	t.Helper()
	if !bytes.Equal(got, want) {
		t.Errorf("%s: %v, want %v", what, got, want)
	}
}

func wantErr(t *testing.T, what string, got, want api.Errno) {
	t.Helper()
	if got != want {
		t.Errorf("%s: %v, want %v", what, got, want)
	}
}

// wantFault: a list that a call answered beside an error is empty, and the error is that one.
func wantFault[T any](t *testing.T, what string, l []T, e, want api.Errno) {
	t.Helper()
	wantErr(t, what, e, want)
	if len(l) > 0 {
		t.Errorf("%s: %d of something beside an error", what, len(l))
	}
}

func wantUnframe(t *testing.T, what string, b, content []byte, length int, want api.Errno) {
	t.Helper()
	c, n, e := codec.Unframe(b)
	wantErr(t, what, e, want)
	if n != length || !bytes.Equal(c, content) {
		t.Errorf("%s: %d bytes, length %d, want %d, %d", what, len(c), n, len(content), length)
	}
}

// framed says again what a frame is, by the library's sum.
func framed(b []byte) []byte {
	f := binary.LittleEndian.AppendUint32(nil, uint32(len(b)))
	f = append(f, b...)
	return binary.LittleEndian.AppendUint32(f, crc32.ChecksumIEEE(f))
}

func TestP2_1Sum(t *testing.T) {
	cases := map[string]uint32{"": 0, "123456789": 0xcbf43926, "a": 0xe8b7be43, "\x00": 0xd202ef8d, "\xff\xff\xff\xff": 0xffffffff}
	for s, want := range cases {
		if got := codec.Sum([]byte(s)); got != want {
			t.Errorf("Sum(%q): %x, want %x", s, got, want)
		}
	}
	draw := draws()
	var b []byte
	for range 2000 {
		b = append(b, byte(draw()>>3))
		if got, want := codec.Sum(b), crc32.ChecksumIEEE(b); got != want {
			t.Fatalf("Sum of %d bytes: %x, want %x", len(b), got, want)
		}
	}
	for c := range 256 {
		if got, want := codec.Sum([]byte{byte(c)}), crc32.ChecksumIEEE([]byte{byte(c)}); got != want {
			t.Errorf("Sum of byte %d: %x, want %x", c, got, want)
		}
	}
}

func TestP2_1Frame(t *testing.T) {
	wantBytes(t, "of nothing", codec.Frame(nil), []byte{0, 0, 0, 0, 0x1c, 0xdf, 0x44, 0x21})
	wantBytes(t, "of an empty list", codec.Frame([]byte{}), codec.Frame(nil))
	for _, n := range []int{0, 1, 2, 255, 256, 257, 65535, 65536, api.MaxFrame - 1, api.MaxFrame} {
		b := bytes.Repeat([]byte("talus"), n/5+1)[:n]
		wantBytes(t, "Frame", codec.Frame(b), framed(b))
	}
	for _, n := range []int{api.MaxFrame + 1, 2 * api.MaxFrame} {
		wantBytes(t, "too many", codec.Frame(make([]byte, n)), nil)
	}
}

func TestP2_1Unframe(t *testing.T) {
	for _, n := range []int{0, 1, 2, 300, api.MaxFrame} {
		b := bytes.Repeat([]byte{0x5a}, n)
		f := framed(b)
		wantUnframe(t, "whole", f, b, n+8, api.OK)
		wantUnframe(t, "with more behind", append(slices.Clip(f), "more"...), b, n+8, api.OK)
		wantUnframe(t, "with a frame behind", append(slices.Clip(f), f...), b, n+8, api.OK)
	}
}

func TestP2_1UnframeErrors(t *testing.T) {
	count := func(n uint32, more int) []byte {
		return append(binary.LittleEndian.AppendUint32(nil, n), make([]byte, more)...)
	}
	cases := []struct {
		what string
		b    []byte
		want api.Errno
	}{
		{"nothing", nil, api.ErrAgain},
		{"three bytes of a count that is too great", []byte{255, 255, 255}, api.ErrAgain},
		{"a count above MaxFrame", count(api.MaxFrame+1, 0), api.ErrRange},
		{"a count above MaxFrame, with bytes", count(api.MaxFrame+1, api.MaxFrame+5), api.ErrRange},
		{"the greatest count", count(math.MaxUint32, 10), api.ErrRange},
		{"a count with the highest bit", count(1<<31, 10), api.ErrRange},
		{"MaxFrame, no bytes", count(api.MaxFrame, 0), api.ErrAgain},
		{"MaxFrame, one byte less", count(api.MaxFrame, api.MaxFrame+3), api.ErrAgain},
		{"MaxFrame, another sum", count(api.MaxFrame, api.MaxFrame+4), api.ErrCorrupt},
		{"no sum", count(0, 0), api.ErrAgain},
		{"three bytes of a sum", count(0, 3), api.ErrAgain},
		{"another sum", count(0, 4), api.ErrCorrupt},
		{"a sum of the content alone", append(append(count(1, 0), 'a'), 0x43, 0xbe, 0xb7, 0xe8), api.ErrCorrupt},
	}
	for _, c := range cases {
		wantUnframe(t, c.what, c.b, nil, 0, c.want)
	}
	f := framed([]byte("abc"))
	slices.Reverse(f[len(f)-4:])
	wantUnframe(t, "a sum with the highest byte first", f, nil, 0, api.ErrCorrupt)
}

func TestP2_2Zig(t *testing.T) {
	cases := map[int]uint64{
		0: 0, -1: 1, 1: 2, -2: 3, 2: 4, 63: 126, -64: 127, 64: 128, -65: 129,
		math.MaxInt: math.MaxUint64 - 1, math.MinInt: math.MaxUint64, math.MinInt + 1: math.MaxUint64 - 2,
	}
	for n, want := range cases {
		if got := codec.Zig(n); got != want {
			t.Errorf("Zig(%d): %d, want %d", n, got, want)
		}
		if got := codec.Zag(want); got != n {
			t.Errorf("Zag(%d): %d, want %d", want, got, n)
		}
	}
	for _, n := range edgeInts() {
		want := new(big.Int).Mul(big.NewInt(2), big.NewInt(int64(n)))
		if n < 0 {
			want.Sub(want.Neg(want), big.NewInt(1))
		}
		if got := codec.Zig(n); !want.IsUint64() || got != want.Uint64() {
			t.Errorf("Zig(%d): %d, want %d", n, got, want)
		}
	}
}

func TestP2_2Put(t *testing.T) {
	cases := []struct {
		u    uint64
		want []byte
	}{
		{0, []byte{0}},
		{1, []byte{1}},
		{127, []byte{127}},
		{128, []byte{128, 1}},
		{300, []byte{172, 2}},
		{16383, []byte{255, 127}},
		{16384, []byte{128, 128, 1}},
		{1 << 63, []byte{128, 128, 128, 128, 128, 128, 128, 128, 128, 1}},
		{math.MaxUint64, []byte{255, 255, 255, 255, 255, 255, 255, 255, 255, 1}},
	}
	for _, c := range cases {
		wantBytes(t, "Put", codec.Put(nil, c.u), c.want)
		wantBytes(t, "Put behind", codec.Put([]byte{9, 200}, c.u), append([]byte{9, 200}, c.want...))
	}
	for _, u := range edges() {
		wantBytes(t, "Put", codec.Put(nil, u), binary.AppendUvarint(nil, u))
	}
}

func TestP2_2Get(t *testing.T) {
	for _, u := range edges() {
		b := codec.Put(nil, u)
		for _, more := range [][]byte{nil, {0}, {255, 255}, b} {
			if got, n := codec.Get(append(slices.Clip(b), more...)); got != u || n != len(b) {
				t.Errorf("Get of %d: %d, %d", u, got, n)
			}
		}
		for n := range b {
			if got, n := codec.Get(b[:n]); got != 0 || n != 0 {
				t.Errorf("Get of a beginning of %d: %d, %d", u, got, n)
			}
		}
	}
}

func TestP2_2GetOfNone(t *testing.T) {
	high := func(n int, last ...byte) []byte { return append(bytes.Repeat([]byte{255}, n), last...) }
	zero := func(n int, last ...byte) []byte { return append(bytes.Repeat([]byte{128}, n), last...) }
	none := [][]byte{
		nil, {128}, {255}, // too short
		{128, 0}, {255, 0}, {129, 128, 0}, zero(9, 0), high(9, 0), zero(10, 0), zero(30, 0), // longer than needed
		high(9, 2), zero(9, 2), high(9, 3), high(9, 127), high(9, 255), // above 2^64 - 1
		high(10, 1), zero(10, 1), high(10, 0), high(9, 129, 0), zero(9, 129, 1), high(10), high(11), zero(200, 1),
		high(9, 0x40), high(9, 0x82, 0),
	}
	for _, b := range none {
		if u, n := codec.Get(b); u != 0 || n != 0 {
			t.Errorf("Get(%v): %d, %d", b, u, n)
		}
	}
}

func TestP2_2GetTellsJustWhatPutDoes(t *testing.T) {
	alphabet := make([]byte, 256)
	for c := range alphabet {
		alphabet[c] = byte(c)
	}
	check := func(b []byte) {
		u, n := codec.Get(b)
		want, end := uint64(0), 0
		for k := range b {
			if v, m := binary.Uvarint(b[:k+1]); m == k+1 && bytes.Equal(binary.AppendUvarint(nil, v), b[:k+1]) {
				want, end = v, k+1
				break
			}
		}
		if u != want || n != end {
			t.Fatalf("Get(%v): %d, %d, want %d, %d", b, u, n, want, end)
		}
	}
	allBytes(alphabet, 2, check)
	allBytes([]byte{0, 1, 2, 127, 128, 129, 255}, 5, check)
	for _, first := range []byte{128, 200, 255} {
		head := bytes.Repeat([]byte{first}, 8)
		allBytes([]byte{0, 1, 2, 3, 127, 128, 129, 130, 255}, 3, func(b []byte) { check(append(slices.Clone(head), b...)) })
	}
}

// packed says again what Pack tells, by a text of bits.
func packed(width int, l []uint64) []byte {
	var text strings.Builder
	for _, u := range l {
		for bit := range width {
			text.WriteByte('0' + byte(u>>bit&1))
		}
	}
	for text.Len()%8 > 0 {
		text.WriteByte('0')
	}
	var b []byte
	for s := text.String(); s != ""; s = s[8:] {
		c := byte(0)
		for bit := range 8 {
			c += (s[bit] - '0') << bit
		}
		b = append(b, c)
	}
	return b
}

func TestP2_3Pack(t *testing.T) {
	draw := draws()
	for width := 0; width <= 64; width++ {
		for n := range 20 {
			l := make([]uint64, n)
			for i := range l {
				l[i] = draw() & (1<<width - 1)
			}
			if n > 2 {
				l[n/2] = 1<<width - 1
			}
			b, e := codec.Pack(width, l)
			wantErr(t, "Pack", e, api.OK)
			wantBytes(t, "Pack", b, packed(width, l))
			back, e := codec.Unpack(width, n, b)
			wantErr(t, "Unpack", e, api.OK)
			if !slices.Equal(back, l) {
				t.Fatalf("Unpack(%d) of %v: %v", width, l, back)
			}
		}
	}
	b, e := codec.Pack(3, []uint64{5, 2})
	wantErr(t, "Pack", e, api.OK)
	wantBytes(t, "Pack", b, []byte{21})
	b, e = codec.Pack(0, make([]uint64, most+1))
	wantErr(t, "Pack of more than Unpack reads", e, api.OK)
	wantBytes(t, "Pack of more than Unpack reads", b, nil)
}

func TestP2_3PackErrors(t *testing.T) {
	for _, width := range []int{-1, 65, 128, math.MinInt, math.MaxInt} {
		for _, l := range [][]uint64{nil, {0}, {math.MaxUint64}} {
			b, e := codec.Pack(width, l)
			wantFault(t, "width", b, e, api.ErrArg)
		}
	}
	for width := range 64 {
		for _, l := range [][]uint64{{1 << width}, {0, 1 << width}, {0, math.MaxUint64, 0}} {
			b, e := codec.Pack(width, l)
			wantFault(t, "more bits", b, e, api.ErrRange)
		}
	}
}

func TestP2_3UnpackErrors(t *testing.T) {
	cases := []struct {
		width, n int
		b        []byte
		want     api.Errno
	}{
		{-1, 0, nil, api.ErrArg},
		{65, 0, nil, api.ErrArg},
		{math.MinInt, 1, nil, api.ErrArg},
		{math.MaxInt, 1, nil, api.ErrArg},
		{1, -1, nil, api.ErrArg},
		{1, most + 1, nil, api.ErrArg},
		{0, most + 1, nil, api.ErrArg},
		{64, math.MinInt, nil, api.ErrArg},
		{64, math.MaxInt, nil, api.ErrArg},
		{1, most + 1, make([]byte, (most+8)/8), api.ErrArg},
		{0, 0, []byte{0}, api.ErrCorrupt},
		{0, most, []byte{0}, api.ErrCorrupt},
		{5, 0, []byte{0}, api.ErrCorrupt},
		{1, 1, nil, api.ErrCorrupt},
		{8, 1, []byte{1, 0}, api.ErrCorrupt},
		{8, 2, []byte{1}, api.ErrCorrupt},
		{3, 2, []byte{21, 0}, api.ErrCorrupt},
		{3, 2, []byte{21 + 64}, api.ErrCorrupt},
		{3, 2, []byte{21 + 128}, api.ErrCorrupt},
		{1, 1, []byte{2}, api.ErrCorrupt},
		{63, 1, []byte{0, 0, 0, 0, 0, 0, 0, 128}, api.ErrCorrupt},
		{64, most, nil, api.ErrCorrupt},
	}
	for _, c := range cases {
		l, e := codec.Unpack(c.width, c.n, c.b)
		wantFault(t, "Unpack", l, e, c.want)
	}
}

func TestP2_3UnpackAtItsEnds(t *testing.T) {
	for _, width := range []int{0, 1, 7, 64} {
		l := make([]uint64, most)
		l[most-1] = 1<<width - 1
		b, _ := codec.Pack(width, l)
		back, e := codec.Unpack(width, most, b)
		wantErr(t, "Unpack", e, api.OK)
		if !slices.Equal(back, l) {
			t.Errorf("width %d: not the same", width)
		}
		none, e := codec.Unpack(width, 0, nil)
		wantFault(t, "no numbers", none, e, api.OK)
	}
}

func TestP2_3UnpackTellsJustWhatPackDoes(t *testing.T) {
	allBytes([]byte{0, 1, 2, 31, 64, 127, 128, 255}, 3, func(b []byte) {
		for width := range 26 {
			for n := range 26 {
				l, e := codec.Unpack(width, n, b)
				if e == api.OK && (len(l) != n || !bytes.Equal(packed(width, l), b)) {
					t.Fatalf("Unpack(%d, %d, %v): %v", width, n, b, l)
				}
				fits := len(b) == (width*n+7)/8 && (width*n%8 == 0 || b[len(b)-1] < 1<<(width*n%8))
				if (e == api.OK) != fits || e != api.OK && (e != api.ErrCorrupt || len(l) > 0) {
					t.Fatalf("Unpack(%d, %d, %v): %v", width, n, b, e)
				}
			}
		}
	})
}

func TestP2_4Runs(t *testing.T) {
	cases := []struct {
		l    []uint64
		want []byte
	}{
		{nil, nil},
		{[]uint64{}, nil},
		{[]uint64{0}, []byte{0, 1}},
		{[]uint64{7, 7, 7, 1}, []byte{7, 3, 1, 1}},
		{[]uint64{1, 2, 1}, []byte{1, 1, 2, 1, 1, 1}},
		{[]uint64{300, 300}, []byte{172, 2, 2}},
		{make([]uint64, 128), []byte{0, 128, 1}},
		{make([]uint64, most), []byte{0, 160, 141, 6}},
		{make([]uint64, most+1), []byte{0, 161, 141, 6}},
		{[]uint64{math.MaxUint64, math.MaxUint64}, []byte{255, 255, 255, 255, 255, 255, 255, 255, 255, 1, 2}},
	}
	for _, c := range cases {
		b := codec.Runs(c.l)
		wantBytes(t, "Runs", b, c.want)
		l, e := codec.Unruns(b)
		if len(c.l) > most {
			wantFault(t, "Unruns of more than it reads", l, e, api.ErrCorrupt)
		} else if e != api.OK || !slices.Equal(l, c.l) {
			t.Errorf("Unruns(%v): %v", b, e)
		}
	}
}

func TestP2_4UnrunsErrors(t *testing.T) {
	run := func(l ...uint64) []byte {
		var b []byte
		for _, u := range l {
			b = binary.AppendUvarint(b, u)
		}
		return b
	}
	none := [][]byte{
		run(7), run(7, 1, 8), // a number without a run's length
		run(7, 0), run(7, 1, 8, 0), run(7, 0, 7, 1), // a run of nothing
		run(7, 1, 7, 1), run(1, 1, 7, 2, 7, 3), run(0, 1, 0, 1), // no longest runs
		run(7, most+1), run(7, most, 8, 1), run(7, 1, 8, most), run(7, math.MaxUint64), run(7, 1<<63), run(7, 1, 8, math.MaxUint64), run(7, 2, 8, math.MaxUint64-1),
		{128}, {7, 128}, {7, 1, 128}, {7, 129, 0}, {135, 0, 1}, // no numbers
		append(bytes.Repeat([]byte{255}, 9), 2, 1),
	}
	for _, b := range none {
		l, e := codec.Unruns(b)
		wantFault(t, "Unruns", l, e, api.ErrCorrupt)
	}
	for _, b := range [][]byte{run(7, most), run(7, most-1, 8, 1), run(7, 1, 8, most-1), nil} {
		l, e := codec.Unruns(b)
		wantErr(t, "Unruns", e, api.OK)
		wantBytes(t, "Unruns", codec.Runs(l), b)
	}
}

func TestP2_4UnrunsTellsJustWhatRunsDoes(t *testing.T) {
	good := 0
	allBytes([]byte{0, 1, 2, 3, 127, 128, 129, 255}, 5, func(b []byte) {
		l, e := codec.Unruns(b)
		switch {
		case e == api.OK && !bytes.Equal(codec.Runs(l), b):
			t.Fatalf("Unruns(%v): %v", b, l)
		case e == api.OK:
			good++
		case e != api.ErrCorrupt || len(l) > 0:
			t.Fatalf("Unruns(%v): %v, %v", b, l, e)
		}
	})
	if want := runsOfBytes(5); good != want {
		t.Errorf("%d byte lists are runs, want %d", good, want)
	}
}

// runsOfBytes counts the lists of up to so many bytes of the alphabet above that are runs, by a walk over all numbers of those bytes: that none is refused.
func runsOfBytes(room int) int {
	forms := map[int][]uint64{} // numbers by how many bytes they have
	allBytes([]byte{0, 1, 2, 3, 127, 128, 129, 255}, 4, func(b []byte) {
		if u, n := binary.Uvarint(b); n > 0 && n == len(b) && len(binary.AppendUvarint(nil, u)) == n {
			forms[n] = append(forms[n], u)
		}
	})
	var walk func(room int, total uint64, ahead *uint64) int
	walk = func(room int, total uint64, ahead *uint64) int {
		count := 1
		for n, numbers := range forms {
			for m, lengths := range forms {
				if n+m > room {
					continue
				}
				for _, u := range numbers {
					for _, times := range lengths {
						if times > 0 && total+times <= most && (ahead == nil || *ahead != u) {
							count += walk(room-n-m, total+times, &u)
						}
					}
				}
			}
		}
		return count
	}
	return walk(room, 0, nil)
}

func TestP2_4Deltas(t *testing.T) {
	cases := []struct {
		l    []int
		want []byte
	}{
		{nil, nil},
		{[]int{}, nil},
		{[]int{0}, []byte{0}},
		{[]int{5, 3}, []byte{10, 3}},
		{[]int{-1, -1, 63, -1}, []byte{1, 0, 128, 1, 127}},
		{[]int{math.MaxInt, math.MinInt}, []byte{254, 255, 255, 255, 255, 255, 255, 255, 255, 1, 2}},
		{[]int{math.MinInt, math.MaxInt}, []byte{255, 255, 255, 255, 255, 255, 255, 255, 255, 1, 1}},
		{[]int{1, math.MinInt}, []byte{2, 254, 255, 255, 255, 255, 255, 255, 255, 255, 1}},
		{[]int{0, math.MinInt}, []byte{0, 255, 255, 255, 255, 255, 255, 255, 255, 255, 1}},
	}
	for _, c := range cases {
		b := codec.Deltas(c.l)
		wantBytes(t, "Deltas", b, c.want)
		l, e := codec.Undeltas(b)
		if e != api.OK || !slices.Equal(l, c.l) {
			t.Errorf("Undeltas(%v): %v, %v", b, l, e)
		}
	}
	var long []int
	for i := range 2 * most {
		long = append(long, i*i)
	}
	if l, e := codec.Undeltas(codec.Deltas(long)); e != api.OK || !slices.Equal(l, long) {
		t.Errorf("a long list: %v", e)
	}
}

func TestP2_4UndeltasTellsJustWhatDeltasDoes(t *testing.T) {
	allBytes([]byte{0, 1, 2, 127, 128, 129, 255}, 5, func(b []byte) {
		whole := true
		for rest := b; whole && len(rest) > 0; {
			_, n := codec.Get(rest)
			whole, rest = n > 0, rest[n:]
		}
		l, e := codec.Undeltas(b)
		if whole && (e != api.OK || !bytes.Equal(codec.Deltas(l), b)) || !whole && (e != api.ErrCorrupt || len(l) > 0) {
			t.Fatalf("Undeltas(%v): %v, %v", b, l, e)
		}
	})
	for _, b := range [][]byte{append(bytes.Repeat([]byte{255}, 9), 2), bytes.Repeat([]byte{128}, 99), {4, 4, 128, 0}} {
		l, e := codec.Undeltas(b)
		wantFault(t, "Undeltas", l, e, api.ErrCorrupt)
	}
}

func TestP2_5EachUndoesTheOther(t *testing.T) {
	draw := draws()
	for n := range 300 {
		numbers, ints, raw := make([]uint64, n), make([]int, n), make([]byte, n)
		for i := range n {
			numbers[i], ints[i], raw[i] = draw(), int(draw()), byte(draw()>>2)
			if i > 0 && draw()%3 == 0 {
				numbers[i], ints[i] = numbers[i-1], -ints[i-1]
			}
		}
		if l, e := codec.Unruns(codec.Runs(numbers)); e != api.OK || !slices.Equal(l, numbers) {
			t.Fatalf("Runs of %v: %v, %v", numbers, l, e)
		}
		if l, e := codec.Undeltas(codec.Deltas(ints)); e != api.OK || !slices.Equal(l, ints) {
			t.Fatalf("Deltas of %v: %v, %v", ints, l, e)
		}
		b, _ := codec.Pack(64, numbers)
		if l, e := codec.Unpack(64, n, b); e != api.OK || !slices.Equal(l, numbers) {
			t.Fatalf("Pack of %v: %v, %v", numbers, l, e)
		}
		wantUnframe(t, "Frame", codec.Frame(raw), raw, n+8, api.OK)
	}
	for _, u := range edges() {
		if got := codec.Zig(codec.Zag(u)); got != u {
			t.Errorf("Zig(Zag(%d)): %d", u, got)
		}
	}
	for _, n := range edgeInts() {
		if got := codec.Zag(codec.Zig(n)); got != n {
			t.Errorf("Zag(Zig(%d)): %d", n, got)
		}
	}
}

func TestP2_5FramesBitsAndBeginnings(t *testing.T) {
	for _, s := range []string{"", "a", "\x00\x00", "a frame of some more bytes", strings.Repeat("\xff\x00z", 100)} {
		f := codec.Frame([]byte(s))
		for at := 4; at < len(f); at++ {
			for bit := range 8 {
				g := slices.Clone(f)
				g[at] ^= 1 << bit
				wantUnframe(t, "a bit turned", g, nil, 0, api.ErrCorrupt)
			}
		}
		for n := range f {
			wantUnframe(t, "a beginning", f[:n], nil, 0, api.ErrAgain)
		}
	}
}

func TestR1AnyBytesAreAnswered(t *testing.T) {
	draw := draws()
	for n := range 3000 {
		b := make([]byte, n%60)
		for i := range b {
			b[i] = byte(draw())
		}
		width, count := int(draw()%70)-2, int(draw()%200)-20
		codec.Get(b)
		codec.Unframe(b)
		if l, e := codec.Unpack(width, count, b); e != api.OK && len(l) > 0 {
			t.Errorf("Unpack: numbers beside %v", e)
		}
		if l, e := codec.Unruns(b); e == api.OK {
			wantBytes(t, "Unruns", codec.Runs(l), b)
		}
		if l, e := codec.Undeltas(b); e == api.OK {
			wantBytes(t, "Undeltas", codec.Deltas(l), b)
		}
	}
}

// room is a list with more behind its end, that must stay as it is.
func room[T any](l []T, fill T) (list, all []T) {
	all = slices.Clone(l)
	for range 64 {
		all = append(all, fill)
	}
	return all[:len(l)], all
}

func TestR3WhatIsHandedInStays(t *testing.T) {
	raw, rawAll := room([]byte{1, 2, 1, 3, 1}, 0xa5)
	numbers, numbersAll := room([]uint64{4, 4, 1}, 77)
	ints, intsAll := room([]int{-4, 4, 1}, 77)
	framedRaw, framedAll := room(framed([]byte("abc")), 0xa5)
	rawWas, numbersWas, intsWas, framedWas := slices.Clone(rawAll), slices.Clone(numbersAll), slices.Clone(intsAll), slices.Clone(framedAll)
	codec.Sum(raw)
	codec.Frame(raw)
	codec.Unframe(framedRaw)
	codec.Put(raw, 1<<63)
	codec.Get(raw)
	codec.Pack(3, numbers)
	codec.Unpack(8, 5, raw)
	codec.Runs(numbers)
	codec.Unruns(raw[:4])
	codec.Deltas(ints)
	codec.Undeltas(raw)
	wantBytes(t, "bytes", rawAll, rawWas)
	wantBytes(t, "a frame", framedAll, framedWas)
	if !slices.Equal(numbersAll, numbersWas) || !slices.Equal(intsAll, intsWas) {
		t.Error("numbers were changed")
	}
}

func TestR3AnswersAreNewMemory(t *testing.T) {
	b, all := room([]byte{1, 2}, 0)
	one, two := codec.Put(b, 3), codec.Put(b, 4)
	for i := range one[:cap(one)] {
		one[:cap(one)][i] = 0xee
	}
	wantBytes(t, "the other answer", two, []byte{1, 2, 4})
	wantBytes(t, "what was handed in", all[:5], []byte{1, 2, 0, 0, 0})

	f := codec.Frame([]byte("abc"))
	content, _, _ := codec.Unframe(f)
	for i := range content[:cap(content)] {
		content[:cap(content)][i] = 0xee
	}
	wantUnframe(t, "a frame whose content was changed", f, []byte("abc"), 11, api.OK)

	own := []byte("abc")
	g := codec.Frame(own)
	own[0] = 'z'
	wantBytes(t, "a frame of what was changed behind", g, framed([]byte("abc")))
}
