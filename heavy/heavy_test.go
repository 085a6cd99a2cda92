package heavy_test

import (
	"encoding/binary"
	"fmt"
	"math"
	"math/big"
	"slices"
	"testing"

	"talus/api"
	"talus/heavy"
)

func same(t *testing.T, what string, got, want any) {
	t.Helper()
	if a, b := fmt.Sprint(got), fmt.Sprint(want); a != b {
		t.Errorf("%s: %s, want %s", what, a, b)
	}
}

// draws: numbers of 64 bits, always the same ones.
func draws(n int) []uint64 {
	l := make([]uint64, n)
	u := uint64(1)
	for i := range l {
		u = u*6364136223846793005 + 1442695040888963407
		l[i] = u ^ u>>29
	}
	return l
}

// streams: ids in several manners.
func streams(n int) map[string][]int {
	m := map[string][]int{}
	add := func(name string, id func(i int, x uint64) int) {
		for i, x := range draws(n) {
			m[name] = append(m[name], id(i, x))
		}
	}
	add("wild", func(i int, x uint64) int { return int(x) })
	add("one", func(i int, x uint64) int { return -7 })
	add("few", func(i int, x uint64) int { return int(x%5) - 2 })
	add("small", func(i int, x uint64) int { return int(x%90) - 45 })
	add("some often", func(i int, x uint64) int { return int(x%100) * int(x>>20&1) })
	add("of all lengths", func(i int, x uint64) int { return int(x) >> (x % 64) })
	add("rising", func(i int, x uint64) int { return i })
	add("round and round", func(i int, x uint64) int { return i % 9 })
	add("twice each", func(i int, x uint64) int { return -i / 2 })
	add("the ends", func(i int, x uint64) int { return [...]int{math.MinInt, math.MaxInt, 0, -1}[x%4] })
	add("first many, then others", func(i int, x uint64) int { return i * i / n * int(x%3) })
	return m
}

func filled(m int, ids ...int) *heavy.Sketch {
	h := heavy.New(m)
	for _, id := range ids {
		h.Insert(id)
	}
	return h
}

// A model is a sketch that holds each id as often as its counter tells, in a row.
type model struct {
	m, total int
	ids      []int
}

func (m *model) unlike() []int { return slices.Compact(slices.Clone(m.ids)) }

func (m *model) insert(id int) {
	m.total++
	if _, found := slices.BinarySearch(m.ids, id); found || len(m.unlike()) < m.m {
		m.ids = append(m.ids, id)
		slices.Sort(m.ids)
		return
	}
	m.take()
}

func (m *model) merge(o *model) {
	m.total += o.total
	m.ids = append(m.ids, o.ids...)
	slices.Sort(m.ids)
	for len(m.unlike()) > m.m { // till the (m + 1)-th greatest is gone
		m.take()
	}
}

// take takes one of each.
func (m *model) take() {
	var l []int
	for i, id := range m.ids {
		if i > 0 && m.ids[i-1] == id {
			l = append(l, id)
		}
	}
	m.ids = l
}

func (m *model) list() []heavy.Counter {
	var l []heavy.Counter
	for _, id := range m.unlike() {
		l = append(l, heavy.Counter{Id: id, Count: m.count(id)})
	}
	return l
}

func (m *model) count(id int) int {
	n := 0
	for _, x := range m.ids {
		if x == id {
			n++
		}
	}
	return n
}

// top: the greatest one, then that of the others, and so on.
func (m *model) top(n int) []heavy.Counter {
	l := m.list()
	var told []heavy.Counter
	for len(told) < n && len(l) > 0 {
		best := 0
		for i := range l {
			if l[i].Count > l[best].Count {
				best = i
			}
		}
		told = append(told, l[best])
		l = slices.Delete(l, best, best+1)
	}
	return told
}

func (m *model) bytes() []byte {
	b := binary.AppendUvarint(nil, uint64(m.total))
	b = binary.AppendUvarint(b, uint64(len(m.unlike())))
	for _, c := range m.list() {
		b = binary.AppendVarint(b, int64(c.Id))
		b = binary.AppendUvarint(b, uint64(c.Count))
	}
	return b
}

func check(t *testing.T, what string, h *heavy.Sketch, m *model) {
	t.Helper()
	same(t, what+": Counters", h.Counters(), m.list())
	same(t, what+": Total", h.Total(), m.total)
	same(t, what+": Bytes", h.Bytes(), m.bytes())
}

func checkTop(t *testing.T, what string, h *heavy.Sketch, m *model) {
	t.Helper()
	for n := -2; n < m.m+3; n++ {
		same(t, fmt.Sprint(what, ": Top ", n), h.Top(n), m.top(n))
	}
}

func TestP8_1New(t *testing.T) {
	for _, m := range []int{math.MinInt, -64, -1, 0, 1, 2, 63, 64, 65, 128, math.MaxInt} {
		good := m >= 1 && m <= 64
		same(t, fmt.Sprint("New ", m), heavy.New(m) != nil, good)
		h, e := heavy.Load(m, []byte{0, 0})
		same(t, fmt.Sprint("Load ", m), h != nil, good)
		same(t, fmt.Sprint("Load ", m), e == api.OK, good)
	}
	for m := 1; m <= 64; m++ {
		check(t, "of none", heavy.New(m), &model{m: m})
		checkTop(t, "of none", heavy.New(m), &model{m: m})
	}
}

func TestP8_1Insert(t *testing.T) {
	h := filled(2, 1, 1, 2, 3)
	same(t, "the chapter's", h.Counters(), "[{1 1}]")
	same(t, "the chapter's", h.Total(), 4)
	same(t, "the chapter's", h.Top(1), "[{1 1}]")
	h.Insert(3)
	same(t, "there is room again", h.Counters(), "[{1 1} {3 1}]")
	for _, m := range []int{1, 2, 3, 7, 64} {
		for name, l := range streams(400) {
			h, o := heavy.New(m), &model{m: m}
			for i, id := range l {
				h.Insert(id)
				o.insert(id)
				check(t, fmt.Sprint(m, name, i), h, o)
				if t.Failed() {
					return
				}
			}
			checkTop(t, fmt.Sprint(m, name), h, o)
		}
	}
}

func TestP8_1InsertAll(t *testing.T) { // all rows of up to seven ids
	for m := 1; m <= 3; m++ {
		var walk func(h *heavy.Sketch, o model, left int)
		walk = func(h *heavy.Sketch, o model, left int) {
			check(t, fmt.Sprint("m ", m), h, &o)
			checkTop(t, fmt.Sprint("m ", m), h, &o)
			for id := -1; id < 3 && left > 0 && !t.Failed(); id++ {
				next, after := h.Copy(), o
				after.ids = slices.Clone(o.ids)
				next.Insert(id)
				after.insert(id)
				walk(next, after, left-1)
			}
		}
		walk(heavy.New(m), model{m: m}, 7)
	}
}

func TestP8_1InsertFills(t *testing.T) { // how many counters there may be
	for m := 2; m <= 64; m++ {
		h := heavy.New(m)
		for i := range m {
			h.Insert(i)
			h.Insert(i)
		}
		same(t, "all of them", len(h.Counters()), m)
		h.Insert(0)
		same(t, "another one", h.Top(1), "[{0 3}]")
		same(t, "another one", len(h.Counters()), m)
		h.Insert(m)
		same(t, "one less each", h.Top(1), "[{0 2}]")
		same(t, "one less each", len(h.Counters()), m)
		h.Insert(m)
		same(t, "and again", h.Counters(), "[{0 1}]")
		h.Insert(m)
		same(t, "a new one", h.Counters(), fmt.Sprintf("[{0 1} {%d 1}]", m))
		same(t, "Total", h.Total(), 2*m+4)
	}
}

// many: a sketch of 2^doublings ids.
func many(m, id int, doublings int) *heavy.Sketch {
	h := filled(m, id)
	for range doublings {
		h.Merge(h)
	}
	return h
}

func TestP8_1Full(t *testing.T) {
	h := many(2, 7, 50)
	want := fmt.Sprintf("[{7 %d}]", 1<<50)
	same(t, "full", h.Counters(), want)
	h.Insert(8)
	h.Insert(7)
	same(t, "Insert does nothing", h.Counters(), want)
	same(t, "Total", h.Total(), 1<<50)
	same(t, "with itself", h.Merge(h), api.ErrFull)
	same(t, "one more", h.Merge(filled(2, 9)), api.ErrFull)
	same(t, "it stays", h.Counters(), want)
	same(t, "it stays", h.Total(), 1<<50)
	same(t, "of none", h.Merge(heavy.New(2)), api.OK)
	same(t, "full of another", filled(2, 1).Merge(h), api.ErrFull)
	o := heavy.New(2)
	same(t, "full of none", o.Merge(h), api.OK)
	same(t, "full of none", o.Counters(), want)
	same(t, "full of none", o.Total(), 1<<50)
	h = many(3, 3, 49)
	for i := range 49 {
		same(t, "and more", h.Merge(many(3, 4, i)), api.OK)
	}
	all := fmt.Sprintf("[{3 %d} {4 %d}]", 1<<49, 1<<49-1)
	same(t, "all but one", h.Total(), 1<<50-1)
	same(t, "two too many", h.Merge(filled(3, 6, 6)), api.ErrFull)
	same(t, "all but one", h.Counters(), all)
	same(t, "all but one", h.Total(), 1<<50-1)
	h.Insert(5)
	same(t, "full", h.Total(), 1<<50)
	h.Insert(5)
	same(t, "full", h.Total(), 1<<50)
	same(t, "full", h.Counters(), fmt.Sprintf("[{3 %d} {4 %d} {5 1}]", 1<<49, 1<<49-1))
}

func TestP8_1FullByTotal(t *testing.T) { // the total counts, not the counters
	h := filled(1, 1, 2)
	for range 49 {
		same(t, "Merge", h.Merge(h), api.OK)
	}
	same(t, "no counter", len(h.Counters()), 0)
	same(t, "full", h.Total(), 1<<50)
	h.Insert(1)
	same(t, "no counter", len(h.Counters()), 0)
	same(t, "ErrFull", h.Merge(filled(1, 1)), api.ErrFull)
	same(t, "ErrFull", filled(1, 1).Merge(h), api.ErrFull)
	same(t, "ErrFull", h.Merge(h), api.ErrFull)
	same(t, "full", h.Total(), 1<<50)
}

func TestP8_1Merge(t *testing.T) {
	h := filled(2, 1, 1, 2)
	same(t, "the chapter's", h.Merge(filled(2, 3)), api.OK)
	same(t, "the chapter's", h.Counters(), "[{1 1}]")
	same(t, "Total", h.Total(), 4)
	for _, m := range []int{1, 2, 5, 33, 64} {
		for name, l := range streams(300) {
			for _, cut := range []int{0, 1, 60, 150, 300} {
				what := fmt.Sprint(m, name, cut)
				h, o, p, q := heavy.New(m), heavy.New(m), &model{m: m}, &model{m: m}
				for _, id := range l[:cut] {
					h.Insert(id)
					p.insert(id)
				}
				for _, id := range l[cut:] {
					o.Insert(id)
					q.insert(id)
				}
				same(t, what, h.Merge(o), api.OK)
				p.merge(q)
				check(t, what, h, p)
				checkTop(t, what, h, p)
				check(t, what+": o stays", o, q)
				same(t, what, h.Merge(h), api.OK)
				p.merge(p)
				check(t, what+": doubled", h, p)
				h.Insert(5)
				p.insert(5)
				check(t, what+": it goes on", h, p)
				check(t, what+": o apart", o, q)
			}
		}
	}
}

func TestP8_1MergeTakes(t *testing.T) { // the (m + 1)-th greatest count, and those alike
	counters := func(m int, counts ...int) *heavy.Sketch {
		h := heavy.New(m)
		for i, n := range counts {
			for range max(n, 0) {
				h.Insert(i)
			}
		}
		return h
	}
	for _, c := range []struct {
		m    int
		a, b []int
		want string
	}{
		{2, []int{5, 3}, []int{0, 0, 4, 2}, "[{0 2} {2 1}]"},
		{2, []int{5, 4}, []int{0, 0, 4, 2}, "[{0 1}]"},
		{2, []int{4, 4}, []int{0, 0, 4, 4}, "[]"},
		{2, []int{0, 0, 4, 2}, []int{5, 3}, "[{0 2} {2 1}]"},
		{2, []int{3, 2}, []int{0, 9}, "[{0 3} {1 11}]"},
		{2, []int{3, 2}, []int{0, 9, 4}, "[{1 8} {2 1}]"},
		{1, []int{3}, []int{0, 3}, "[]"},
		{1, []int{3}, []int{0, 4}, "[{1 1}]"},
		{3, []int{6, 5, 4}, []int{0, 0, 0, 3, 2, 1}, "[{0 3} {1 2} {2 1}]"},
		{3, []int{6, 5, 4}, []int{0, 0, 0, 5}, "[{0 2} {1 1} {3 1}]"},
		{4, []int{6, 5, 4}, []int{0, 0, 0, 5}, "[{0 6} {1 5} {2 4} {3 5}]"},
	} {
		h := counters(c.m, c.a...)
		same(t, "Merge", h.Merge(counters(c.m, c.b...)), api.OK)
		same(t, fmt.Sprint(c.m, c.a, c.b), h.Counters(), c.want)
	}
	for m := 2; m <= 64; m++ {
		h, o := heavy.New(m), heavy.New(m)
		for i := range m {
			h.Insert(i)
			h.Insert(i)
			o.Insert(i - 1)
		}
		same(t, "one more", h.Merge(o), api.OK)
		same(t, "one less each", len(h.Counters()), m)
		same(t, "one less each", h.Top(1), "[{0 2}]")
		same(t, "Total", h.Total(), 3*m)
	}
}

func TestP8_1MergeErrors(t *testing.T) {
	h, p := filled(4, 1, 2, 2), &model{4, 3, []int{1, 2, 2}}
	for what, o := range map[string]*heavy.Sketch{
		"nil":     nil,
		"zero":    {},
		"m less":  filled(3, 5),
		"m more":  filled(5, 5),
		"of none": heavy.New(64),
		"full":    many(1, 9, 50),
	} {
		same(t, what, h.Merge(o), api.ErrArg)
		check(t, what, h, p)
		var none *heavy.Sketch
		same(t, "ErrMade ahead: "+what, none.Merge(o), api.ErrMade)
		same(t, "ErrMade ahead: "+what, new(heavy.Sketch).Merge(o), api.ErrMade)
	}
	o := many(4, 9, 50)
	same(t, "ErrFull", h.Merge(o), api.ErrFull)
	check(t, "ErrFull", h, p)
	same(t, "o stays", o.Counters(), fmt.Sprintf("[{9 %d}]", 1<<50))
	same(t, "o stays", o.Total(), 1<<50)
}

func TestP8_2Counters(t *testing.T) {
	h := filled(7, 3, math.MaxInt, -1, 0, math.MinInt, 0, -2)
	want := fmt.Sprintf("[{%d 1} {-2 1} {-1 1} {0 2} {3 1} {%d 1}]", math.MinInt, math.MaxInt)
	same(t, "by Id", h.Counters(), want)
	l := h.Counters()
	l = l[:cap(l)]
	clear(l)
	same(t, "a list of its own", h.Counters(), want)
	top := h.Top(2)
	clear(top[:cap(top)])
	same(t, "a list of its own", h.Counters(), want)
	same(t, "a list of its own", h.Top(1), "[{0 2}]")
}

func TestP8_2Top(t *testing.T) {
	h := filled(8, 5, 5, 1, -3, -3, 9, 9, 9, 1, 2)
	all := []heavy.Counter{{Id: 9, Count: 3}, {Id: -3, Count: 2}, {Id: 1, Count: 2}, {Id: 5, Count: 2}, {Id: 2, Count: 1}}
	for n := range 9 {
		same(t, fmt.Sprint("Top ", n), h.Top(n), all[:min(n, 5)])
	}
	for _, n := range []int{-1, -2, math.MinInt} {
		same(t, fmt.Sprint("Top ", n), len(h.Top(n)), 0)
	}
	same(t, "Top of all", h.Top(math.MaxInt), all)
	far := many(3, 1, 48)
	far.Merge(many(3, 2, 49))
	far.Merge(many(3, -2, 47))
	same(t, "far apart", far.Top(3), fmt.Sprintf("[{2 %d} {1 %d} {-2 %d}]", 1<<49, 1<<48, 1<<47))
}

func TestP8_3Bytes(t *testing.T) {
	same(t, "of none", heavy.New(5).Bytes(), "[0 0]")
	same(t, "by Id", filled(4, 3, -1, -1, 300, 0).Bytes(), []byte{5, 4, 1, 2, 0, 1, 6, 1, 216, 4, 1})
	same(t, "the total", filled(1, 4, 5, 4).Bytes(), []byte{3, 1, 8, 1})
	same(t, "no counters", filled(1, 4, 5).Bytes(), []byte{2, 0})
	same(t, "great ones", many(1, math.MaxInt, 50).Bytes(), numbers(1<<50, 1, math.MaxUint64-1, 1<<50))
	same(t, "the least one", filled(1, math.MinInt).Bytes(), numbers(1, 1, math.MaxUint64, 1))
}

func numbers(l ...uint64) []byte {
	var b []byte
	for _, u := range l {
		b = binary.AppendUvarint(b, u)
	}
	return b
}

// told: is b what a sketch of some counters tells? (By the words of P8.3, with sums of any length.)
func told(m int, b []byte) bool {
	var l []uint64
	for rest := b; len(rest) > 0; {
		u, n := binary.Uvarint(rest)
		if n <= 0 || len(numbers(u)) != n {
			return false
		}
		l = append(l, u)
		rest = rest[n:]
	}
	if len(l) < 2 || l[0] > 1<<40 || l[1] > uint64(m) || uint64(len(l)) != 2+2*l[1] {
		return false
	}
	sum := new(big.Int)
	for i := 2; i < len(l); i += 2 {
		if l[i+1] < 1 || l[i+1] > 1<<40 {
			return false
		}
		sum.Add(sum, new(big.Int).SetUint64(l[i+1]))
		if i > 2 && unzig(l[i-2]) >= unzig(l[i]) {
			return false
		}
	}
	return sum.Cmp(new(big.Int).SetUint64(l[0])) <= 0
}

func unzig(u uint64) int64 {
	n, _ := binary.Varint(numbers(u))
	return n
}

func loads(t *testing.T, m int, b []byte) bool {
	t.Helper()
	given := slices.Clone(b)
	h, e := heavy.Load(m, b)
	want := told(m, b)
	same(t, fmt.Sprint("Load of ", b), e == api.OK, want)
	same(t, "b stays", b, given)
	if e != api.OK {
		same(t, "the error", e, api.ErrCorrupt)
		same(t, "beside an error", h == nil, true)
		return false
	}
	same(t, fmt.Sprint("Bytes of ", b), h.Bytes(), b)
	return true
}

func TestP8_3LoadSmall(t *testing.T) {
	good := 0
	var walk func(letters, b []byte, most int)
	walk = func(letters, b []byte, most int) {
		if loads(t, 2, b) {
			good++
		}
		for _, c := range letters {
			if len(b) < most {
				walk(letters, append(b[:len(b):len(b)], c), most)
			}
		}
	}
	walk([]byte{0, 1, 2, 3, 4, 127, 128, 129, 255}, nil, 5)
	walk([]byte{0, 1, 2, 3}, nil, 7)
	if good < 100 {
		t.Errorf("only %d were good", good)
	}
}

func TestP8_3LoadCounters(t *testing.T) {
	const most = 1 << 40
	for _, c := range []struct {
		b    []byte
		want bool
	}{
		{numbers(0, 0), true},
		{numbers(7, 0), true},
		{numbers(most, 0), true},
		{numbers(most+1, 0), false},
		{numbers(math.MaxUint64, 0), false},
		{numbers(0), false},
		{numbers(0, 0, 0), false},
		{numbers(1, 1), false},
		{numbers(1, 1, 0), false},
		{numbers(1, 1, 0, 0), false},
		{numbers(1, 1, 0, 1), true},
		{numbers(1, 1, 0, 1, 0), false},
		{numbers(1, 1, 0, 1, 0, 1), false},
		{numbers(1, 0, 0, 1), false},
		{numbers(1, 2, 0, 1), false},
		{numbers(1, 1, 0, 2), false},
		{numbers(2, 1, 0, 2), true},
		{numbers(9, 1, 0, 2), true},
		{numbers(0, 1, 0, 1), false},
		{numbers(0, 1, 0, 0), false},
		{numbers(most, 1, 0, most), true},
		{numbers(most, 1, 0, most+1), false},
		{numbers(most-1, 1, 0, most), false},
		{numbers(most+1, 1, 0, most), false},
		{numbers(most+1, 1, 0, most+1), false},
		{numbers(most, 2, 0, most-1, 2, 1), true},
		{numbers(most, 2, 0, most, 2, 1), false},
		{numbers(most, 2, 0, 1, 2, most), false},
		{numbers(most, 2, 0, 1, 2, math.MaxUint64), false},
		{numbers(most, 2, 0, math.MaxUint64, 2, 1), false},
		{numbers(most, 1, 0, math.MaxUint64), false},
		{numbers(most, 2, 0, 1<<63, 2, 1<<63), false},
		{numbers(9, 1, math.MaxUint64, 1), true},
		{numbers(9, 1, math.MaxUint64-1, 1), true},
		{numbers(9, 2, math.MaxUint64, 1, math.MaxUint64-1, 1), true},
		{numbers(9, 2, math.MaxUint64-1, 1, math.MaxUint64, 1), false},
		{numbers(9, 2, 0, 1, 2, 1), true},
		{numbers(9, 2, 2, 1, 0, 1), false},
		{numbers(9, 2, 0, 1, 0, 1), false},
		{numbers(9, 2, 0, 1, 0, 2), false},
		{numbers(9, 1, 0, 1, 0, 1), false},
		{numbers(9, 2, 0, 1, 1, 1), false},
		{numbers(9, 2, 1, 1, 0, 1), true},
		{numbers(9, 2, 3, 1, 1, 1), true},
		{numbers(9, 2, 1, 1, 3, 1), false},
		{numbers(9, 4, 3, 1, 1, 1, 0, 1, 2, 6), true},
		{numbers(9, 4, 3, 1, 1, 1, 0, 1, 2, 7), false},
		{numbers(9, 5, 3, 1, 1, 1, 0, 1, 2, 1, 4, 1), false},
		{numbers(9, math.MaxUint64, 3, 1), false},
		{numbers(9, 1<<63, 3, 1), false},
		{[]byte{128, 0, 0}, false},
		{[]byte{0, 128, 0}, false},
		{[]byte{1, 1, 128, 0, 1}, false},
		{[]byte{1, 1, 0, 129, 0}, false},
		{[]byte{1, 1, 0, 129}, false},
		{[]byte{1, 1, 129, 1}, false},
		{[]byte{255, 255, 255, 255, 255, 255, 255, 255, 255, 2, 0}, false},
	} {
		same(t, fmt.Sprint(c.b), loads(t, 4, c.b), c.want)
	}
}

func TestP8_3LoadMost(t *testing.T) { // how many counters there may be
	for m := 1; m <= 64; m++ {
		for _, n := range []int{m - 1, m, m + 1, m + 2} {
			l := []uint64{uint64(n), uint64(n)}
			for i := range n {
				l = append(l, uint64(2*i), 1)
			}
			same(t, fmt.Sprint("m ", m, " of ", n), loads(t, m, numbers(l...)), n <= m)
			l[0]--
			same(t, fmt.Sprint("m ", m, " of ", n, ", of a total less"), loads(t, m, numbers(l...)), false)
		}
	}
}

func TestP8_3LoadErrors(t *testing.T) {
	for _, m := range []int{math.MinInt, -1, 0, 65, math.MaxInt} {
		for _, b := range [][]byte{nil, {0}, {255}, {0, 0}, {1, 1, 0, 1}} {
			h, e := heavy.Load(m, b)
			same(t, "m", e, api.ErrArg)
			same(t, "m", h == nil, true)
		}
	}
	for _, b := range [][]byte{nil, {}} {
		h, e := heavy.Load(1, b)
		same(t, "no bytes", e, api.ErrCorrupt)
		same(t, "no bytes", h == nil, true)
	}
}

func TestP8_3LoadDamaged(t *testing.T) {
	whole := heavy.New(40)
	for i, x := range draws(60) {
		for range i%5 + 1 {
			whole.Insert(int(x) >> (x % 60))
		}
	}
	b := whole.Bytes()
	same(t, "whole", loads(t, 40, b), true)
	for n := range b {
		same(t, fmt.Sprint("a beginning of ", n), loads(t, 40, b[:n]), false)
		for bit := range 8 {
			c := slices.Clone(b)
			c[n] ^= 1 << bit
			loads(t, 40, c)
		}
	}
	for c := range 256 {
		same(t, "one more", loads(t, 40, append(slices.Clone(b), byte(c))), false)
	}
	h, _ := heavy.Load(40, b)
	clear(b)
	same(t, "bytes changed behind", h.Counters(), whole.Counters())
	same(t, "bytes changed behind", h.Bytes(), whole.Bytes())
}

func TestP8_4(t *testing.T) {
	for _, m := range []int{1, 2, 8, 33, 64} {
		for name, l := range streams(700) {
			bounds(t, fmt.Sprint(m, name), m, filled(m, l...), l)
			slices.Sort(l)
			bounds(t, fmt.Sprint(m, name, " rising"), m, filled(m, l...), l)
			slices.Reverse(l)
			bounds(t, fmt.Sprint(m, name, " falling"), m, filled(m, l...), l)
		}
	}
}

// bounds holds a sketch against all the ids that it was given.
func bounds(t *testing.T, what string, m int, h *heavy.Sketch, all []int) {
	t.Helper()
	same(t, what+": Total", h.Total(), len(all))
	if n := len(h.Counters()); n > m {
		t.Errorf("%s: %d counters", what, n)
	}
	often, counts := map[int]int{}, map[int]int{}
	for _, id := range all {
		often[id]++
	}
	for _, c := range h.Counters() {
		counts[c.Id] = c.Count
		if c.Count < 1 || often[c.Id] == 0 {
			t.Errorf("%s: a counter %v", what, c)
		}
	}
	for id, f := range often {
		if e := counts[id]; e > f || f > e+len(all)/(m+1) {
			t.Errorf("%s: %d came %d times of %d, its counter tells %d", what, id, f, len(all), e)
		}
	}
}

func TestP8_4Merges(t *testing.T) {
	for _, m := range []int{1, 4, 20, 64} {
		for name, all := range streams(600) {
			for parts := 2; parts <= 14; parts += 3 {
				l, lists := make([]*heavy.Sketch, parts), make([][]int, parts)
				for i := range l {
					l[i] = heavy.New(m)
				}
				for i, id := range all {
					at := (i*i + i/7) % parts
					l[at].Insert(id)
					lists[at] = append(lists[at], id)
				}
				for len(l) > 1 { // a tree of merges
					end := len(l) - 1
					same(t, "Merge", l[0].Merge(l[end]), api.OK)
					lists[0] = append(lists[0], lists[end]...)
					l[0].Insert(5)
					lists[0] = append(lists[0], 5)
					l, lists = append(l[1:end:end], l[0]), append(lists[1:end:end], lists[0])
					bounds(t, fmt.Sprint(m, name, parts), m, l[len(l)-1], lists[len(l)-1])
				}
			}
		}
	}
}

func TestP8_5LoadUndoesBytes(t *testing.T) {
	for _, m := range []int{1, 5, 64} {
		for name, l := range streams(300) {
			h, p := heavy.New(m), &model{m: m}
			for i, id := range l {
				o, e := heavy.Load(m, h.Bytes())
				same(t, "Load", e, api.OK)
				check(t, fmt.Sprint(m, name, i), o, p)
				h = o // which goes on
				h.Insert(id)
				p.insert(id)
			}
		}
	}
	h := many(3, 8, 40)
	o, e := heavy.Load(3, h.Bytes())
	same(t, "2^40", e, api.OK)
	same(t, "2^40", o.Counters(), h.Counters())
	same(t, "they merge", o.Merge(h), api.OK)
	same(t, "they merge", o.Counters(), fmt.Sprintf("[{8 %d}]", 1<<41))
	_, e = heavy.Load(3, o.Bytes())
	same(t, "2^41", e, api.ErrCorrupt)
	h.Insert(9)
	_, e = heavy.Load(3, h.Bytes())
	same(t, "one more than 2^40", e, api.ErrCorrupt)
	o, e = heavy.Load(64, heavy.New(64).Bytes())
	same(t, "of none", e, api.OK)
	same(t, "of none", o.Bytes(), "[0 0]")
}

func TestCopy(t *testing.T) {
	h, p := filled(2, 5, 6), &model{2, 2, []int{5, 6}}
	o := h.Copy()
	check(t, "alike", o, p)
	o.Insert(6)
	check(t, "the first stays", h, p)
	h.Insert(8)
	same(t, "the other stays", o.Counters(), "[{5 1} {6 2}]")
	same(t, "the other stays", o.Total(), 3)
	same(t, "they merge", h.Merge(o), api.OK)
	same(t, "they merge", h.Counters(), "[{5 1} {6 2}]")
	same(t, "they merge", h.Total(), 6)
	none := heavy.New(3).Copy()
	same(t, "of none", none.Bytes(), "[0 0]")
	none.Insert(4)
	same(t, "of none", none.Counters(), "[{4 1}]")
	same(t, "m", none.Merge(filled(3, 4)), api.OK)
	same(t, "m", none.Merge(filled(4, 4)), api.ErrArg)
	for name, l := range streams(300) {
		h := filled(9, l[:150]...)
		o := h.Copy()
		for _, id := range l[150:] {
			h.Insert(id)
			o.Insert(id)
		}
		same(t, name+": both go on alike", o.Bytes(), h.Bytes())
		same(t, name+": both go on alike", o.Total(), 300)
	}
}

func TestMadeByNoCall(t *testing.T) {
	for _, h := range []*heavy.Sketch{nil, {}} {
		h.Insert(5)
		same(t, "Total", h.Total(), 0)
		same(t, "Counters", len(h.Counters()), 0)
		same(t, "Bytes", len(h.Bytes()), 0)
		same(t, "Copy", h.Copy() == nil, true)
		same(t, "Merge", h.Merge(heavy.New(2)), api.ErrMade)
		same(t, "Merge with itself", h.Merge(h), api.ErrMade)
		for n := -1; n < 3; n++ {
			same(t, "Top", len(h.Top(n)), 0)
		}
	}
}

func TestBytesAreNew(t *testing.T) {
	for _, h := range []*heavy.Sketch{filled(4, 1, 2), heavy.New(4)} {
		want := fmt.Sprint(h.Bytes())
		b := h.Bytes()
		for i := range b[:cap(b)] {
			b[:cap(b)][i] = 99
		}
		same(t, "again", h.Bytes(), want)
	}
}
