package kmv_test

import (
	"bytes"
	"encoding/binary"
	"fmt"
	"math"
	"math/big"
	"slices"
	"testing"

	"talus/api"
	"talus/field"
	"talus/kmv"
)

func same(t *testing.T, what string, got, want any) {
	t.Helper()
	if a, b := fmt.Sprint(got), fmt.Sprint(want); a != b {
		t.Errorf("%s: %s, want %s", what, a, b)
	}
}

// plain: one copy, whose hashes are the numbers themselves.
func plain(most int) api.Settings {
	return api.Settings{T: most, Seeds: []api.Seed{{A: 1}}, K: 1, M: 1}
}

// several: settings of so many copies, with seeds near and far from the field's ends.
func several(most, copies int) api.Settings {
	seeds := []api.Seed{{A: 1}, {A: field.P - 1, B: field.P - 1}, {A: 1 << 60, B: 5}, {A: 88172645463325252}, {A: 3, B: 1 << 59}, {A: 6364136223846793005 % field.P, B: 77}, {A: 2, B: 1}}
	return api.Settings{T: most, Seeds: seeds[:copies], K: 64, M: 64}
}

// draws: numbers of 64 bits, always the same ones.
func draws(n int) []uint64 {
	l := make([]uint64, n)
	u := uint64(1)
	for i := range l {
		u = u*6364136223846793005 + 1442695040888963407
		l[i] = u ^ u>>29
	}
	return l
}

func filled(s api.Settings, numbers ...uint64) *kmv.Sketch {
	k := kmv.New(s)
	for _, x := range numbers {
		k.Insert(x)
	}
	return k
}

// model: the copies of a set of numbers, hashed as numbers of any length, all of them put in order.
func model(s api.Settings, numbers []uint64) [][]uint64 {
	p := big.NewInt(field.P)
	copies := make([][]uint64, len(s.Seeds))
	for i, seed := range s.Seeds {
		for _, x := range numbers {
			h := new(big.Int).SetUint64(x)
			h.Mul(h, new(big.Int).SetUint64(seed.A))
			h.Add(h, new(big.Int).SetUint64(seed.B))
			copies[i] = append(copies[i], h.Mod(h, p).Uint64())
		}
		slices.Sort(copies[i])
		copies[i] = slices.Compact(copies[i])
		copies[i] = copies[i][:min(s.T, len(copies[i]))]
	}
	return copies
}

func modelAnswers(s api.Settings, copies [][]uint64) []int {
	var l []int
	for _, hashes := range copies {
		n := len(hashes)
		if n >= s.T {
			q := big.NewInt(field.P)
			q.Mul(q, big.NewInt(int64(s.T-1)))
			n = int(q.Div(q, new(big.Int).SetUint64(hashes[n-1])).Int64())
		}
		l = append(l, n)
	}
	return l
}

// modelBytes: the numbers to base 128 as the library of Go writes them.
func modelBytes(copies [][]uint64) []byte {
	var b []byte
	for _, hashes := range copies {
		b = binary.AppendUvarint(b, uint64(len(hashes)))
		for i, h := range hashes {
			if i > 0 {
				h -= hashes[i-1]
			}
			b = binary.AppendUvarint(b, h)
		}
	}
	return b
}

func check(t *testing.T, what string, s api.Settings, k *kmv.Sketch, numbers []uint64) {
	t.Helper()
	copies := model(s, numbers)
	answers := modelAnswers(s, copies)
	same(t, what+": Copies", k.Copies(), copies)
	same(t, what+": Answers", k.Answers(), answers)
	same(t, what+": Bytes", k.Bytes(), modelBytes(copies))
	slices.Sort(answers)
	same(t, what+": Estimate", k.Estimate(), answers[len(answers)/2])
}

func TestP6_1Good(t *testing.T) {
	seeds := func(n int) []api.Seed { return slices.Repeat([]api.Seed{{A: 1}}, n) }
	for _, c := range []struct {
		s    api.Settings
		want bool
	}{
		{api.Settings{}, false},
		{api.Settings{T: 16, Seeds: seeds(3), K: 8, M: 8}, true},
		{api.Settings{T: 2, Seeds: seeds(1), K: 1, M: 1}, true},
		{api.Settings{T: 64, Seeds: seeds(7), K: 64, M: 64}, true},
		{api.Settings{T: 1, Seeds: seeds(1), K: 1, M: 1}, false},
		{api.Settings{T: 0, Seeds: seeds(1), K: 1, M: 1}, false},
		{api.Settings{T: -2, Seeds: seeds(1), K: 1, M: 1}, false},
		{api.Settings{T: 65, Seeds: seeds(1), K: 1, M: 1}, false},
		{api.Settings{T: math.MaxInt, Seeds: seeds(1), K: 1, M: 1}, false},
		{api.Settings{T: math.MinInt, Seeds: seeds(1), K: 1, M: 1}, false},
		{api.Settings{T: 2, Seeds: seeds(1), K: 0, M: 1}, false},
		{api.Settings{T: 2, Seeds: seeds(1), K: -1, M: 1}, false},
		{api.Settings{T: 2, Seeds: seeds(1), K: 65, M: 1}, false},
		{api.Settings{T: 2, Seeds: seeds(1), K: 1, M: 0}, false},
		{api.Settings{T: 2, Seeds: seeds(1), K: 1, M: -1}, false},
		{api.Settings{T: 2, Seeds: seeds(1), K: 1, M: 65}, false},
	} {
		same(t, fmt.Sprint(c.s), kmv.Good(c.s), c.want)
	}
	for n := range 20 {
		same(t, fmt.Sprint(n, " seeds"), kmv.Good(api.Settings{T: 2, Seeds: seeds(n), K: 1, M: 1}), n == 1 || n == 3 || n == 5 || n == 7)
	}
}

func TestP6_1GoodSeeds(t *testing.T) {
	edges := []uint64{0, 1, 5, field.P - 1, field.P, field.P + 1, 1 << 62, 1 << 63, math.MaxUint64}
	for _, a := range edges {
		for _, b := range edges {
			want := a > 0 && a < field.P && b < field.P
			for at := range 3 { // whichever of the three it is
				s := several(4, 3)
				s.Seeds[at] = api.Seed{A: a, B: b}
				same(t, fmt.Sprint(s.Seeds), kmv.Good(s), want)
				same(t, fmt.Sprint("New ", s.Seeds), kmv.New(s) != nil, want)
				_, e := kmv.Load(s, []byte{0, 0, 0})
				same(t, fmt.Sprint("Load ", s.Seeds), e == api.OK, want)
			}
		}
	}
}

func TestP6_1New(t *testing.T) {
	for _, copies := range []int{1, 3, 5, 7} {
		k := kmv.New(several(2, copies))
		same(t, "copies", k.Copies(), make([][]uint64, copies))
		same(t, "answers", k.Answers(), make([]int, copies))
		same(t, "estimate", k.Estimate(), 0)
		same(t, "bytes", k.Bytes(), make([]byte, copies))
	}
	same(t, "not good", kmv.New(plain(1)) == nil, true)
	same(t, "nothing", kmv.New(api.Settings{}) == nil, true)
	s := several(3, 3)
	k := kmv.New(s)
	s.Seeds[0] = api.Seed{A: 99, B: 99}
	k.Insert(5)
	check(t, "seeds changed behind", several(3, 3), k, []uint64{5})
}

func TestP6_2Insert(t *testing.T) {
	edges := []uint64{0, 1, 2, field.P - 1, field.P, field.P + 1, 2*field.P - 1, 2 * field.P, 8*field.P + 3, 1 << 61, 1 << 63, math.MaxUint64}
	for _, most := range []int{2, 3, 5, 64} {
		for _, copies := range []int{1, 3, 5, 7} {
			s := several(most, copies)
			k := kmv.New(s)
			var numbers []uint64
			for _, x := range slices.Concat(edges, edges, draws(100)) {
				k.Insert(x)
				numbers = append(numbers, x)
				check(t, fmt.Sprint(most, copies, x), s, k, numbers)
			}
		}
	}
	k := filled(plain(4), field.P+7, 7, 0, field.P)
	same(t, "modulo P", k.Copies(), "[[0 7]]")
}

func TestP6_2Merge(t *testing.T) {
	all := draws(90)
	for _, most := range []int{2, 7, 64} {
		for _, copies := range []int{1, 3, 7} {
			s := several(most, copies)
			for _, cut := range []int{0, 1, 3, 45, 89, 90} {
				k, o := filled(s, all[:cut]...), filled(s, all[min(cut, 40):]...) // some numbers are in both
				same(t, "Merge", k.Merge(o), api.OK)
				check(t, fmt.Sprint("of both ", most, cut), s, k, all)
				check(t, fmt.Sprint("o stays ", most, cut), s, o, all[min(cut, 40):])
				k.Insert(12345)
				check(t, "o apart", s, o, all[min(cut, 40):])
				same(t, "with itself", k.Merge(k), api.OK)
				check(t, "with itself", s, k, append(slices.Clone(all), 12345))
			}
		}
	}
	s := several(3, 3)
	k := kmv.New(s)
	s.K, s.M = 1, 2 // which are for other sketches
	same(t, "another K and M", k.Merge(filled(s, 7)), api.OK)
	check(t, "another K and M", s, k, []uint64{7})
}

func TestP6_2MergeErrors(t *testing.T) {
	s := several(4, 3)
	k := filled(s, 1, 2, 3)
	other := func(change func(*api.Settings)) *kmv.Sketch {
		s := several(4, 3)
		change(&s)
		return filled(s, 9)
	}
	for what, o := range map[string]*kmv.Sketch{
		"nil":        nil,
		"zero":       {},
		"T":          other(func(s *api.Settings) { s.T = 5 }),
		"fewer":      other(func(s *api.Settings) { s.Seeds = s.Seeds[:1] }),
		"more":       other(func(s *api.Settings) { *s = several(4, 5) }),
		"A":          other(func(s *api.Settings) { s.Seeds[2].A++ }),
		"B":          other(func(s *api.Settings) { s.Seeds[0].B++ }),
		"in a row":   other(func(s *api.Settings) { s.Seeds[0], s.Seeds[1] = s.Seeds[1], s.Seeds[0] }),
		"other ones": filled(plain(4), 5),
	} {
		same(t, what, k.Merge(o), api.ErrArg)
		check(t, what, s, k, []uint64{1, 2, 3})
		var none *kmv.Sketch
		same(t, "ErrMade ahead: "+what, none.Merge(o), api.ErrMade)
		same(t, "ErrMade ahead: "+what, new(kmv.Sketch).Merge(o), api.ErrMade)
	}
}

func TestP6_2Copy(t *testing.T) {
	s := several(3, 3)
	k := filled(s, 5, 6)
	o := k.Copy()
	check(t, "alike", s, o, []uint64{5, 6})
	o.Insert(7)
	check(t, "the first stays", s, k, []uint64{5, 6})
	k.Insert(8)
	check(t, "the other stays", s, o, []uint64{5, 6, 7})
	same(t, "they merge", k.Merge(o), api.OK)
	check(t, "they merge", s, k, []uint64{5, 6, 7, 8})
	check(t, "of none", s, kmv.New(s).Copy(), nil)
}

func TestP6_2CopiesAreNew(t *testing.T) {
	s := several(4, 3)
	k := filled(s, 1, 2, 3)
	for _, l := range [][][]uint64{k.Copies(), kmv.New(s).Copies()} {
		for i := range l {
			whole := l[i][:cap(l[i])]
			for j := range whole {
				whole[j] = uint64(i)
			}
		}
		for i := range l {
			for _, h := range l[i][:cap(l[i])] {
				same(t, "a list of its own", h, i)
			}
		}
		check(t, "changed behind", s, k, []uint64{1, 2, 3})
	}
}

func TestP6_3Answers(t *testing.T) {
	for most := 2; most <= 64; most++ {
		s := plain(most)
		k := kmv.New(s)
		for i := range most - 1 {
			k.Insert(uint64(i))
			same(t, "fewer than T", k.Answers(), []int{i + 1})
		}
		k.Insert(uint64(most - 1))
		same(t, "the least that are T", k.Answers(), []int{field.P})
		same(t, "the least that are T", k.Estimate(), field.P)
		k = kmv.New(s)
		for i := range most {
			k.Insert(uint64(field.P - 1 - i))
		}
		same(t, "the greatest", k.Answers(), []int{most - 1}) // (T - 1) times P, by P - 1, without a rest
	}
	k := filled(plain(2), 5, 5, 9)
	same(t, "the chapter's", k.Copies(), "[[5 9]]")
	same(t, "the chapter's", k.Answers(), []int{field.P / 9})
	same(t, "the chapter's", filled(plain(2), 7).Answers(), "[1]")
}

func TestP6_3Estimate(t *testing.T) {
	for _, copies := range []int{1, 3, 5, 7} {
		s := several(2, copies)
		for _, x := range draws(50) {
			k := filled(s, x, x+1, x/3)
			want := k.Answers()
			slices.Sort(want)
			below := 0
			for _, n := range want {
				if n < k.Estimate() {
					below++
				}
			}
			same(t, "the middle one", k.Estimate(), want[copies/2])
			if below > copies/2 {
				t.Errorf("%d answers of %v are below %d", below, want, k.Estimate())
			}
			k.Estimate()
			check(t, "answers in their order", s, k, []uint64{x, x + 1, x / 3})
		}
	}
}

func TestP6_4Bytes(t *testing.T) {
	same(t, "one copy", filled(plain(4), 300, 5, 5).Bytes(), []byte{2, 5, 167, 2})
	s := plain(3)
	s.Seeds = []api.Seed{{A: 1}, {A: 1, B: 1}, {A: field.P - 1}}
	same(t, "three", filled(s, 0, 2).Bytes(), slices.Concat([]byte{2, 0, 2}, []byte{2, 1, 2}, []byte{2, 0}, binary.AppendUvarint(nil, field.P-2)))
	same(t, "two times", filled(s, 0, 2).Bytes(), filled(s, 2, 0).Bytes())
}

// loads: is b told by a sketch, which says so itself?
func loads(t *testing.T, s api.Settings, b []byte) bool {
	t.Helper()
	given := slices.Clone(b)
	k, e := kmv.Load(s, b)
	same(t, "b stays", b, given)
	if e != api.OK {
		same(t, "the error", e, api.ErrCorrupt)
		same(t, "beside an error", k == nil, true)
		return false
	}
	same(t, fmt.Sprint("Bytes of ", b), k.Bytes(), b)
	return true
}

func TestP6_4LoadSmall(t *testing.T) {
	s := plain(2)
	letters := []byte{0, 1, 2, 3, 127, 128, 129, 255}
	good := 0
	var walk func(b []byte)
	walk = func(b []byte) {
		want := len(b) == 1 && b[0] == 0
		want = want || len(b) == 2 && b[0] == 1 && b[1] < 128
		want = want || len(b) == 3 && b[0] == 1 && b[1] >= 128 && b[2] > 0 && b[2] < 128
		want = want || len(b) == 3 && b[0] == 2 && b[1] < 128 && b[2] > 0 && b[2] < 128
		short := func(l []byte) bool { return len(l) == 2 && l[0] >= 128 && l[1] > 0 && l[1] < 128 }
		want = want || len(b) == 4 && b[0] == 1 && b[1] >= 128 && b[2] >= 128 && b[3] > 0 && b[3] < 128
		want = want || len(b) == 4 && b[0] == 2 && b[1] < 128 && short(b[2:])
		want = want || len(b) == 4 && b[0] == 2 && short(b[1:3]) && b[3] > 0 && b[3] < 128
		if loads(t, s, b) != want {
			t.Errorf("Load of %v: want %v", b, want)
		}
		if want {
			good++
		}
		for _, c := range letters {
			if len(b) < 4 {
				walk(append(b[:len(b):len(b)], c))
			}
		}
	}
	walk(nil)
	if good < 100 {
		t.Errorf("only %d were good", good)
	}
}

func TestP6_4LoadHashes(t *testing.T) {
	number := func(l ...uint64) []byte {
		var b []byte
		for _, u := range l {
			b = binary.AppendUvarint(b, u)
		}
		return b
	}
	for _, c := range []struct {
		b    []byte
		want bool
	}{
		{number(1, field.P-1), true},
		{number(1, field.P), false},
		{number(1, field.P+1), false},
		{number(1, math.MaxUint64), false},
		{number(2, 0, field.P-1), true},
		{number(2, 0, field.P), false},
		{number(2, 0, 0), false},
		{number(2, 5, 0), false},
		{number(2, field.P-2, 1), true},
		{number(2, field.P-2, 2), false},
		{number(2, field.P-1, 1), false},
		{number(2, field.P-1, math.MaxUint64), false}, // the sum wraps
		{number(2, 5, math.MaxUint64), false},
		{number(3, 1, 1, 1), true},
		{number(3, 1, 1, 0), false},
		{number(3, 0, field.P-2, 1), true},
		{number(3, 0, field.P-2, 2), false},
		{number(4, 1, 1, 1, 1), false}, // more than T
		{number(4), false},
		{number(math.MaxUint64), false},
		{number(1<<63, 1), false},
		{number(3, 1, 1), false},
		{number(0, 0), false},
		{number(1, 5, 0), false},
		{slices.Concat(number(1), slices.Repeat([]byte{128}, 12)), false},
		{slices.Concat(number(1), slices.Repeat([]byte{255}, 9), []byte{2}), false},
	} {
		same(t, fmt.Sprint("Load of ", c.b), loads(t, plain(3), c.b), c.want)
	}
	three := several(2, 3)
	same(t, "copies of unlike counts", loads(t, three, number(0, 1, 5, 2, 5, 1)), true)
	same(t, "a copy is missing", loads(t, three, number(0, 1, 5)), false)
	same(t, "a copy too many", loads(t, three, number(0, 0, 0, 0)), false)
	same(t, "the last is none", loads(t, three, number(0, 0, 3, 1, 1, 1)), false)
	k, _ := kmv.Load(three, number(0, 1, 5, 2, 5, 1))
	same(t, "copies", k.Copies(), "[[] [5] [5 6]]")
	same(t, "answers", k.Answers(), []int{0, 1, field.P / 6})
	same(t, "estimate", k.Estimate(), 1)
}

func TestP6_4LoadErrors(t *testing.T) {
	for _, b := range [][]byte{nil, {0}, {255}, {1, 5}} {
		k, e := kmv.Load(plain(1), b)
		same(t, "not good", e, api.ErrArg)
		same(t, "not good", k == nil, true)
	}
	_, e := kmv.Load(plain(2), nil)
	same(t, "nothing", e, api.ErrCorrupt)
	_, e = kmv.Load(plain(2), []byte{})
	same(t, "no bytes", e, api.ErrCorrupt)
}

func TestP6_4LoadDamaged(t *testing.T) {
	s := several(5, 3)
	b := filled(s, draws(9)...).Bytes()
	same(t, "whole", loads(t, s, b), true)
	for n := range b {
		same(t, fmt.Sprint("a beginning of ", n), loads(t, s, b[:n]), false)
		for bit := range 8 {
			c := slices.Clone(b)
			c[n] ^= 1 << bit
			loads(t, s, c) // which it may, but only of what it tells
		}
	}
	same(t, "one more", loads(t, s, append(slices.Clone(b), 0)), false)
	k, e := kmv.Load(s, b)
	same(t, "Load", e, api.OK)
	for i := range b {
		b[i] = 255
	}
	check(t, "bytes changed behind", s, k, draws(9))
	s.Seeds[0] = api.Seed{A: 9}
	k.Insert(77)
	check(t, "seeds changed behind", several(5, 3), k, append(draws(9), 77))
}

func TestP6_5OrderAndMerges(t *testing.T) {
	s := several(8, 5)
	all := draws(60)
	want := filled(s, all...).Bytes()
	turned := slices.Clone(all)
	slices.Reverse(turned)
	same(t, "turned", filled(s, turned...).Bytes(), want)
	slices.Sort(turned)
	same(t, "rising", filled(s, turned...).Bytes(), want)
	same(t, "again and again", filled(s, slices.Concat(turned, all, turned)...).Bytes(), want)
	for parts := 1; parts <= 9; parts++ {
		l := make([]*kmv.Sketch, parts)
		for i := range l {
			l[i] = kmv.New(s)
		}
		for i, x := range all {
			l[(i*i+i)%parts].Insert(x)
		}
		for len(l) > 1 { // a tree of merges
			same(t, "Merge", l[0].Merge(l[len(l)-1]), api.OK)
			l = append(l[1:len(l)-1:len(l)-1], l[0])
		}
		same(t, fmt.Sprint(parts, " parts"), l[0].Bytes(), want)
	}
}

func TestP6_5Fewer(t *testing.T) {
	for _, most := range []int{2, 16, 64} {
		s := several(most, 7)
		k := kmv.New(s)
		for d, x := range draws(most - 1) {
			k.Insert(x)
			k.Insert(x)
			k.Insert(x % field.P)
			same(t, "each answer", k.Answers(), slices.Repeat([]int{d + 1}, 7))
			same(t, "estimate", k.Estimate(), d+1)
		}
	}
}

func TestP6_6LoadUndoesBytes(t *testing.T) {
	for _, copies := range []int{1, 3, 7} {
		for _, n := range []int{0, 1, 5, 6, 7, 100} {
			s := several(6, copies)
			k := filled(s, draws(n)...)
			o, e := kmv.Load(s, k.Bytes())
			same(t, "Load", e, api.OK)
			check(t, "loaded", s, o, draws(n))
			same(t, "it merges", k.Merge(o), api.OK)
			o.Insert(3)
			check(t, "it goes on", s, o, append(draws(n), 3))
			check(t, "apart", s, k, draws(n))
		}
	}
}

func TestMadeByNoCall(t *testing.T) {
	for _, k := range []*kmv.Sketch{nil, {}} {
		k.Insert(5)
		same(t, "Copies", len(k.Copies()), 0)
		same(t, "Answers", len(k.Answers()), 0)
		same(t, "Estimate", k.Estimate(), 0)
		same(t, "Copy", k.Copy() == nil, true)
		same(t, "Bytes", len(k.Bytes()), 0)
		same(t, "Merge", k.Merge(kmv.New(plain(2))), api.ErrMade)
		same(t, "Merge with itself", k.Merge(k), api.ErrMade)
	}
}

func TestBytesAreNew(t *testing.T) {
	k := filled(plain(4), 1, 2)
	b := k.Bytes()
	clear(b[:cap(b)])
	same(t, "again", bytes.Equal(k.Bytes(), []byte{2, 1, 1}), true)
	l := k.Answers()
	clear(l[:cap(l)])
	same(t, "again", k.Answers(), "[2]")
}
