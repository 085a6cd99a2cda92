package segment_test

import (
	"encoding/binary"
	"fmt"
	"hash/crc32"
	"math"
	"math/rand"
	"slices"
	"strings"
	"testing"
	"unsafe"

	"talus/api"
	"talus/column"
	"talus/dict"
	"talus/segment"
	"talus/value"
)

const (
	most        = 1000
	mostColumns = 8
	mostIds     = 512
	nan         = 0x7ff8000000000000
	inf         = 0x7ff0000000000000
	ninf        = -1 << 52
	minusZero   = math.MinInt // the bits of -0
)

var null = api.Value{}

func same(t *testing.T, what string, got, want any) {
	t.Helper()
	if a, b := fmt.Sprint(got), fmt.Sprint(want); a != b {
		t.Errorf("%s: %s, want %s", what, a, b)
	}
}

func integer(n int) api.Value { return api.Value{Kind: api.Int, N: n} }
func float(n int) api.Value   { return api.Value{Kind: api.Float, N: n} }
func str(s string) api.Value  { return api.Value{Kind: api.Str, S: s} }
func truth(n int) api.Value   { return api.Value{Kind: api.Bool, N: n} }
func bits(f float64) int      { return int(math.Float64bits(f)) }

// pool: values of a kind, rising, no Nulls.
func pool(kind int) []api.Value {
	switch kind {
	case api.Int:
		return []api.Value{integer(math.MinInt), integer(math.MinInt + 1), integer(-300), integer(-1), integer(0), integer(1), integer(5), integer(nan), integer(math.MaxInt)}
	case api.Float:
		return []api.Value{float(ninf), float(bits(-1e300)), float(bits(-1.5)), float(bits(-1)), float(0), float(1), float(bits(1)), float(bits(2.5)), float(inf), float(nan)}
	case api.Str:
		return []api.Value{str(""), str("\x00"), str("'"), str("A"), str("B"), str("a"), str("a\x00"), str("aa"), str("ab"), str(strings.Repeat("x", 63)), str(strings.Repeat("x", 64)), str("é"), str("\xff")}
	}
	return []api.Value{truth(0), truth(1)}
}

// unlike: n values of a kind (of Bools at most two), in no order.
func unlike(kind, n int) []api.Value {
	if kind == api.Bool {
		return []api.Value{truth(1), truth(0)}[:min(n, 2)]
	}
	var l []api.Value
	for i := range n {
		switch j := (i*211 + 7) % n; kind {
		case api.Int:
			l = append(l, integer(j-n/2))
		case api.Float:
			l = append(l, float(bits(float64(j-n/2)/4)))
		case api.Str:
			l = append(l, str(fmt.Sprint(j, strings.Repeat("x", j%60)))) // of at most 64 bytes
		}
	}
	return l
}

// bad: values that are not good.
func bad() []api.Value {
	l := []api.Value{
		{N: 1}, {S: "a"}, {Kind: api.Int, S: "a"}, {Kind: api.Int, N: 5, S: "a"}, {Kind: api.Float, S: "a"}, {Kind: api.Str, N: 1}, {Kind: api.Str, N: 1, S: "a"}, {Kind: api.Bool, S: "a"},
		float(minusZero), float(nan + 1), float(-1), str(strings.Repeat("x", 65)), str(strings.Repeat("x", 70000)), truth(2), truth(-1), truth(math.MinInt),
	}
	for _, kind := range []int{math.MinInt, -1, 5, 256, 257, 1<<32 + 1, math.MaxInt} {
		l = append(l, api.Value{Kind: kind}, api.Value{Kind: kind, N: 1}, api.Value{Kind: kind, S: "a"})
	}
	return l
}

var (
	kinds   = []int{api.Int, api.Float, api.Str, api.Bool}
	noKinds = []int{math.MinInt, -1, 0, 5, 256, 257, 1<<32 + 1, math.MaxInt}
)

// order says again which of two values of one kind comes first.
func order(a, b api.Value) int {
	if a.Kind == api.Str {
		return strings.Compare(a.S, b.S)
	}
	if a.Kind == api.Float {
		f, g := math.Float64frombits(uint64(a.N)), math.Float64frombits(uint64(b.N))
		switch {
		case f != f && g != g:
			return 0
		case f != f:
			return 1
		case g != g:
			return -1
		case f < g:
			return -1
		case f > g:
			return 1
		}
		return 0
	}
	switch {
	case a.N < b.N:
		return -1
	case a.N > b.N:
		return 1
	}
	return 0
}

// A table is rows, and the dictionaries' values that they lead to, from those that there were.
type table struct {
	kinds  []int
	rows   [][]api.Value
	ahead  [][]api.Value // of each dictionary
	shared []int         // of each column the number of its dictionary
}

// plain: a table of rows whose columns have dictionaries of their own, which are empty.
func plain(kinds []int, rows ...[]api.Value) table {
	x := table{kinds: kinds, rows: rows}
	for i := range kinds {
		x.shared = append(x.shared, i)
	}
	x.ahead = make([][]api.Value, len(kinds))
	return x
}

func (x table) dicts() []*dict.Dict {
	var all, l []*dict.Dict
	for range x.ahead {
		all = append(all, nil)
	}
	for i, n := range x.shared {
		if all[n] == nil {
			all[n] = dict.New(x.kinds[i])
			for _, v := range x.ahead[n] {
				all[n].Add(v)
			}
		}
		l = append(l, all[n])
	}
	return l
}

// made says again what Make makes, and which values the dictionaries then have.
func (x table) made() (segment.Segment, [][]api.Value) {
	dicts := make([][]api.Value, len(x.ahead))
	for i, l := range x.ahead {
		dicts[i] = slices.Clone(l)
	}
	s := segment.Segment{Rows: len(x.rows), Columns: make([]column.Vector, len(x.kinds)), Zones: make([]segment.Zone, len(x.kinds))}
	for _, row := range x.rows {
		for i, v := range row {
			id := 0
			if v != null {
				l := &dicts[x.shared[i]]
				if id = slices.Index(*l, v); id < 0 {
					id = len(*l)
					*l = append(*l, v)
				}
			}
			s.Columns[i].Null = append(s.Columns[i].Null, v == null)
			s.Columns[i].Ids = append(s.Columns[i].Ids, id)
		}
	}
	for i := range x.kinds {
		var l []api.Value
		for _, row := range x.rows {
			if row[i] == null {
				s.Zones[i].Nulls++
			} else {
				l = append(l, row[i])
			}
		}
		if len(l) > 0 {
			slices.SortFunc(l, order)
			s.Zones[i].Min, s.Zones[i].Max = l[0], l[len(l)-1]
		}
	}
	return s, dicts
}

func sayValue(v api.Value) string { return fmt.Sprintf("{%d %d %.70q}", v.Kind, v.N, v.S) }

func sayAll(l []api.Value) string {
	var b strings.Builder
	for _, v := range l {
		b.WriteString(sayValue(v))
	}
	return b.String()
}

func sayRows(rows [][]api.Value) string {
	var b strings.Builder
	for _, row := range rows {
		b.WriteString("[" + sayAll(row) + "]")
	}
	return b.String()
}

func sayZone(z segment.Zone) string {
	return fmt.Sprint(z.Nulls, " ", sayValue(z.Min), sayValue(z.Max))
}

func say(s segment.Segment) string {
	text := fmt.Sprint(s.Rows, s.Columns)
	for _, z := range s.Zones {
		text += " " + sayZone(z)
	}
	return text
}

func none(s segment.Segment) bool {
	return s.Rows == 0 && len(s.Columns) == 0 && len(s.Zones) == 0
}

// rowOf is a row that is said shortly.
func rowOf(l ...api.Value) []api.Value { return l }

// thrown: a table that looks thrown.
func thrown(r *rand.Rand) table {
	n, columns := 1+r.Intn(12), 1+r.Intn(mostColumns)
	if r.Intn(40) == 0 {
		n = most - r.Intn(300)
	}
	x := table{rows: make([][]api.Value, n)}
	for i := range columns {
		kind := kinds[r.Intn(4)]
		l := pool(kind)
		if r.Intn(3) == 0 {
			l = unlike(kind, 100)
		}
		l = l[r.Intn(len(l)):]
		nulls := []int{0, 1, 3, 10}[r.Intn(4)]
		own := i
		if j := slices.Index(x.kinds, kind); j >= 0 && r.Intn(4) == 0 {
			own = x.shared[j]
		}
		x.kinds, x.shared, x.ahead = append(x.kinds, kind), append(x.shared, own), append(x.ahead, nil)
		for range r.Intn(6) {
			if v := l[r.Intn(len(l))]; !slices.Contains(x.ahead[own], v) {
				x.ahead[own] = append(x.ahead[own], v)
			}
		}
		for row := range x.rows {
			v := l[r.Intn(len(l))]
			if r.Intn(10) < nulls {
				v = null
			}
			x.rows[row] = append(x.rows[row], v)
		}
	}
	return x
}

// single: rows, each of one value.
func single(l ...api.Value) [][]api.Value {
	var rows [][]api.Value
	for _, v := range l {
		rows = append(rows, rowOf(v))
	}
	return rows
}

// tables: many of them, small and great.
func tables() []table {
	var l []table
	for _, kind := range kinds {
		p := pool(kind)
		for i, v := range p {
			for _, w := range p[i:] {
				l = append(l, plain([]int{kind}, single(v, w)...), plain([]int{kind}, single(w, null, v)...), plain([]int{kind}, single(null, v, w, null)...))
			}
			l = append(l, plain([]int{kind}, single(v)...))
		}
		back := slices.Clone(p)
		slices.Reverse(back)
		l = append(l, plain([]int{kind}, single(p...)...), plain([]int{kind}, single(back...)...))
		for _, n := range []int{1, 2, 7, 8, 9, most - 1, most} {
			l = append(l, plain([]int{kind}, slices.Repeat(single(null), n)...), plain([]int{kind}, slices.Repeat(single(p[1]), n)...), plain([]int{kind}, slices.Repeat(single(p...), most)[:n]...))
		}
		l = append(l, plain([]int{kind}, single(unlike(kind, mostIds)...)...), plain([]int{kind}, slices.Repeat(single(unlike(kind, mostIds)...), 500)[:most]...))
	}
	all := []int{api.Int, api.Float, api.Str, api.Bool, api.Str, api.Float, api.Int, api.Int}
	wide := rowOf(integer(300), float(inf), str(strings.Repeat("y", 64)), truth(1), null, float(nan), integer(math.MinInt), integer(0))
	for n := 1; n <= mostColumns; n++ {
		l = append(l, plain(all[:n], wide[:n]), plain(all[:n], make([]api.Value, n)), plain(all[:n], wide[:n], make([]api.Value, n), wide[:n]), plain(all[:n], slices.Repeat([][]api.Value{wide[:n]}, most)...))
	}
	r := rand.New(rand.NewSource(1))
	for range 1500 {
		l = append(l, thrown(r))
	}
	return l
}

func checkDicts(t *testing.T, what string, dicts []*dict.Dict, shared []int, want [][]api.Value) {
	t.Helper()
	for i, d := range dicts {
		if l := d.Values(); !slices.Equal(l, want[shared[i]]) {
			t.Errorf("%s: dictionary %d: %s, want %s", what, i, sayAll(l), sayAll(want[shared[i]]))
		}
	}
}

func TestP12_1Make(t *testing.T) {
	dicts := []*dict.Dict{dict.New(api.Int)}
	s, e := segment.Make([]int{api.Int}, single(integer(5), null, integer(7)), dicts)
	same(t, "as the chapter has it", fmt.Sprint(s, int(e)), "{3 [{[false true false] [0 0 1]}] [{1 {1 5 } {1 7 }}]} 0")
	s, e = segment.Make([]int{api.Int}, single(integer(7), integer(4), integer(5)), dicts)
	same(t, "and again", fmt.Sprint(s, int(e)), "{3 [{[false false false] [1 2 0]}] [{0 {1 4 } {1 7 }}]} 0")
	same(t, "and then", dicts[0].Values(), "[{1 5 } {1 7 } {1 4 }]")
	s, e = segment.Make([]int{api.Str, api.Bool}, [][]api.Value{{str("b"), null}, {str("a"), null}}, []*dict.Dict{dict.New(api.Str), dict.New(api.Bool)})
	same(t, "two columns", fmt.Sprint(s, int(e)), "{2 [{[false false] [0 1]} {[true true] [0 0]}] [{0 {3 0 a} {3 0 b}} {2 {0 0 } {0 0 }}]} 0")
	for i, x := range tables() {
		dicts := x.dicts()
		s, e := segment.Make(x.kinds, x.rows, dicts)
		want, behind := x.made()
		if e != api.OK || say(s) != say(want) {
			t.Errorf("Make of %d %s: %s %d, want %s", i, sayRows(x.rows), say(s), e, say(want))
		}
		checkDicts(t, fmt.Sprint("behind ", i), dicts, x.shared, behind)
		same(t, "a good one", segment.Good(s), true)
	}
}

func TestP12_1MakeAllSmall(t *testing.T) { // all rows of up to four values
	for _, l := range [][]api.Value{{null, integer(-1), integer(0), integer(9)}, {null, float(nan), float(0), float(ninf)}, {null, str(""), str("b"), str("ab")}, {null, truth(0), truth(1)}} {
		var walk func(rows [][]api.Value)
		walk = func(rows [][]api.Value) {
			if len(rows) > 0 {
				x := plain([]int{l[1].Kind}, rows...)
				dicts := x.dicts()
				s, e := segment.Make(x.kinds, x.rows, dicts)
				want, behind := x.made()
				same(t, fmt.Sprint("Make ", rows), say(s)+fmt.Sprint(int(e)), say(want)+"0")
				checkDicts(t, "Make", dicts, x.shared, behind)
			}
			for _, v := range l {
				if len(rows) < 4 {
					walk(append(slices.Clone(rows), rowOf(v)))
				}
			}
		}
		walk(nil)
	}
}

// refused: Make answers an error, and nothing has changed.
func refused(t *testing.T, what string, x table, dicts []*dict.Dict, want api.Errno) {
	t.Helper()
	var ahead []string
	for _, d := range dicts {
		ahead = append(ahead, fmt.Sprint(d.Values()))
	}
	s, e := segment.Make(x.kinds, x.rows, dicts)
	if !none(s) || e != want {
		t.Errorf("Make of %s: %s %d, want %d", what, say(s), e, want)
	}
	for i, d := range dicts {
		same(t, what+": the dictionaries stay", d.Values(), ahead[i])
	}
}

// misfits: rows that do not fit an Int and a Str.
func misfits() [][]api.Value {
	l := [][]api.Value{nil, {}, {integer(1)}, {str("a")}, {null}, {integer(1), str("a"), null}, {integer(1), str("a"), integer(1)}, make([]api.Value, mostColumns), make([]api.Value, 5000),
		{str("a"), integer(1)}, {integer(1), integer(1)}, {str("a"), str("a")}, {float(0), str("a")}, {truth(0), str("a")}, {integer(1), float(0)}, {null, truth(1)}, {null, integer(0)}}
	for _, v := range bad() {
		l = append(l, rowOf(v, str("a")), rowOf(integer(1), v), rowOf(null, v), rowOf(v, null))
	}
	return l
}

func TestP12_1MakeArg(t *testing.T) {
	good := [][]api.Value{{integer(1)}, {null}}
	for n := range 12 {
		for m := range 12 {
			if n == m && n >= 1 && n <= mostColumns {
				continue
			}
			x := plain(slices.Repeat([]int{api.Int}, n), make([]api.Value, n), make([]api.Value, m))
			refused(t, fmt.Sprint(n, " kinds and ", m, " dictionaries"), x, plain(slices.Repeat([]int{api.Int}, m)).dicts(), api.ErrArg)
		}
	}
	x := plain(slices.Repeat([]int{api.Int}, 100000), make([]api.Value, 100000))
	refused(t, "very many columns", x, make([]*dict.Dict, 100000), api.ErrArg)
	for _, rows := range [][][]api.Value{nil, {}, slices.Repeat(good[:1], most+1), slices.Repeat(good, most), make([][]api.Value, most+1)} {
		refused(t, fmt.Sprint(len(rows), " rows"), plain([]int{api.Int}, rows...), []*dict.Dict{dict.New(api.Int)}, api.ErrArg)
	}
	for _, kind := range kinds {
		for _, other := range append(append(noKinds, kinds...), kind-1, kind+1, -kind) {
			x := plain([]int{other}, single(null)...)
			if other != kind {
				refused(t, fmt.Sprint("a dictionary of ", kind, " for ", other), x, []*dict.Dict{dict.New(kind)}, api.ErrArg)
				refused(t, fmt.Sprint("dictionaries of ", kind, " for ", other), plain([]int{kind, other}, make([]api.Value, 2)), []*dict.Dict{dict.New(kind), dict.New(kind)}, api.ErrArg)
			}
			for _, d := range []*dict.Dict{nil, {}} {
				refused(t, fmt.Sprint("a dictionary that no call made for ", other), x, []*dict.Dict{d}, api.ErrArg)
				refused(t, fmt.Sprint("and one that no call made for ", other), plain([]int{kind, other}, make([]api.Value, 2)), []*dict.Dict{dict.New(kind), d}, api.ErrArg)
			}
		}
	}
	for _, d := range []*dict.Dict{nil, {}, dict.New(api.Str)} { // ahead of what the rows have
		refused(t, "rows that do not fit", plain([]int{api.Int}, single(str("a"))...), []*dict.Dict{d}, api.ErrArg)
		refused(t, "rows that are none", plain([]int{api.Int}, nil), []*dict.Dict{d}, api.ErrArg)
	}
	refused(t, "too many rows that do not fit", plain([]int{api.Int}, slices.Repeat(single(str("a")), most+1)...), []*dict.Dict{dict.New(api.Int)}, api.ErrArg)
	full := dict.New(api.Int)
	for _, v := range unlike(api.Int, mostIds) {
		full.Add(v)
	}
	refused(t, "too many rows, no room", plain([]int{api.Int}, slices.Repeat(single(integer(1<<40)), most+1)...), []*dict.Dict{full}, api.ErrArg)
	refused(t, "no room, and no dictionary", plain([]int{api.Int, api.Int}, rowOf(integer(1<<40), null)), []*dict.Dict{full, nil}, api.ErrArg)
}

func TestP12_1MakeSchema(t *testing.T) {
	two, ok := []int{api.Int, api.Str}, rowOf(integer(1), str("a"))
	full := dict.New(api.Int)
	for _, v := range unlike(api.Int, mostIds) {
		full.Add(v)
	}
	for i, row := range misfits() {
		for _, rows := range [][][]api.Value{{row}, {ok, row}, {row, ok}, {ok, row, ok}, append(slices.Repeat([][]api.Value{ok}, most-1), row), {rowOf(integer(1<<40), str("a")), row}, {row, rowOf(integer(1<<40), str("a"))}} {
			what := fmt.Sprint("misfit ", i, " ", len(rows))
			refused(t, what, plain(two, rows...), []*dict.Dict{dict.New(api.Int), dict.New(api.Str)}, api.ErrSchema)
			refused(t, what+", no room", plain(two, rows...), []*dict.Dict{full, dict.New(api.Str)}, api.ErrSchema) // ahead of ErrFull
		}
	}
	for _, kind := range kinds {
		for _, other := range kinds {
			for _, v := range pool(other) {
				if kind != other {
					refused(t, fmt.Sprint("a value of ", other, " for ", kind), plain([]int{kind}, single(null, v)...), []*dict.Dict{dict.New(kind)}, api.ErrSchema)
				}
			}
		}
	}
}

func TestP12_1MakeFull(t *testing.T) {
	for _, kind := range []int{api.Int, api.Float, api.Str} {
		l := unlike(kind, 600)
		for _, n := range []int{0, 1, 300, 511, 512} { // that the dictionary has
			for _, m := range []int{0, 1, 2, 212, 511, 512, 513} { // new ones
				if n+m > 600 {
					continue
				}
				for _, rows := range [][][]api.Value{single(l[n : n+m]...), single(append(l[n:n+m:n+m], l[:n]...)...), append(single(null), single(append(l[:n:n], l[n:n+m]...)...)...), slices.Repeat(single(l[n:n+m]...), 2)} {
					if len(rows) == 0 || len(rows) > most {
						continue
					}
					what := fmt.Sprint(n, " and ", m, " of ", kind, ", ", len(rows))
					x := plain([]int{kind}, rows...)
					x.ahead[0] = l[:n]
					more := plain([]int{api.Bool, kind, api.Bool}, nil)
					more.ahead[1], more.rows = l[:n], nil
					for _, row := range rows {
						more.rows = append(more.rows, rowOf(truth(1), row[0], truth(0)))
					}
					if n+m > mostIds {
						refused(t, what, x, x.dicts(), api.ErrFull)
						refused(t, what+", in the middle", more, more.dicts(), api.ErrFull)
						continue
					}
					for _, x := range []table{x, more} {
						dicts := x.dicts()
						s, e := segment.Make(x.kinds, x.rows, dicts)
						want, behind := x.made()
						same(t, what, say(s)+fmt.Sprint(int(e)), say(want)+"0")
						checkDicts(t, what, dicts, x.shared, behind)
					}
				}
			}
		}
	}
}

func TestP12_1MakeShared(t *testing.T) { // a dictionary that stands for two columns takes the values of both
	l := unlike(api.Int, 600)
	for _, n := range []int{255, 256, 257, 300} {
		x := table{kinds: []int{api.Int, api.Int}, shared: []int{0, 0}, ahead: make([][]api.Value, 1)}
		for i := range n {
			x.rows = append(x.rows, rowOf(l[i], l[599-i]))
		}
		if 2*n > mostIds {
			refused(t, "shared", x, x.dicts(), api.ErrFull)
			continue
		}
		dicts := x.dicts()
		s, e := segment.Make(x.kinds, x.rows, dicts)
		want, behind := x.made()
		same(t, "shared", say(s)+fmt.Sprint(int(e)), say(want)+"0")
		checkDicts(t, "shared", dicts, x.shared, behind)
	}
}

func TestP12_2Rows(t *testing.T) {
	s := segment.Segment{Rows: 3, Columns: []column.Vector{{Null: []bool{false, true, false}, Ids: []int{1, 0, 0}}}, Zones: []segment.Zone{{Nulls: 1, Min: integer(5), Max: integer(7)}}}
	for _, c := range []struct {
		kind int
		l    []api.Value
		want string
	}{
		{api.Int, []api.Value{integer(7), integer(5)}, "[[{1 5 }] [{0 0 }] [{1 7 }]] 0"},
		{api.Int, []api.Value{integer(-7), integer(9), integer(4)}, "[[{1 9 }] [{0 0 }] [{1 -7 }]] 0"},
		{api.Str, []api.Value{str("a"), str("b")}, "[[{3 0 b}] [{0 0 }] [{3 0 a}]] 0"},
		{api.Int, []api.Value{integer(7)}, "[] 6"},
		{api.Int, nil, "[] 6"},
	} {
		d := dict.New(c.kind)
		for _, v := range c.l {
			d.Add(v)
		}
		rows, e := segment.Rows(s, []*dict.Dict{d})
		same(t, fmt.Sprint("Rows by ", c.l), fmt.Sprint(rows, int(e)), c.want)
		same(t, "the dictionary stays", d.Values(), c.l)
	}
	nothing := segment.Segment{Rows: 2, Columns: []column.Vector{{Null: []bool{true, true}, Ids: []int{0, 0}}}, Zones: []segment.Zone{{Nulls: 2}}}
	rows, e := segment.Rows(nothing, []*dict.Dict{dict.New(api.Bool)})
	same(t, "Nulls need no id", fmt.Sprint(rows, int(e)), "[[{0 0 }] [{0 0 }]] 0")
}

func noRows(t *testing.T, what string, s segment.Segment, dicts []*dict.Dict, want api.Errno) {
	t.Helper()
	rows, e := segment.Rows(s, dicts)
	if len(rows) != 0 || e != want {
		t.Errorf("Rows of %s: %v %d, want %d", what, rows, e, want)
	}
}

func TestP12_2RowsErrors(t *testing.T) {
	empty := func(n int) []*dict.Dict {
		return plain(slices.Repeat([]int{api.Int}, n)).dicts()
	}
	for _, c := range badSegments() {
		for _, dicts := range [][]*dict.Dict{plain([]int{api.Int, api.Str}).dicts(), empty(len(c.s.Columns)), nil, {nil}} {
			noRows(t, c.what, c.s, dicts, api.ErrArg)
		}
	}
	for i, x := range tables() {
		if i%10 > 0 {
			continue
		}
		dicts := x.dicts()
		s, _ := segment.Make(x.kinds, x.rows, dicts)
		n := len(dicts)
		noRows(t, "a dictionary less", s, dicts[:n-1], api.ErrArg)
		noRows(t, "a dictionary more", s, append(slices.Clone(dicts), dicts[0]), api.ErrArg)
		noRows(t, "no dictionaries", s, nil, api.ErrArg)
		for at := range dicts {
			for _, d := range []*dict.Dict{nil, {}} {
				with := slices.Clone(dicts)
				with[at] = d
				noRows(t, "a dictionary that no call made", s, with, api.ErrArg)
				with = empty(n) // ahead of ErrRange
				with[at] = d
				noRows(t, "a dictionary that no call made, empty ones", s, with, api.ErrArg)
			}
			greatest, _, found := 0, 0, false
			for row, id := range s.Columns[at].Ids {
				found = found || !s.Columns[at].Null[row]
				greatest = max(greatest, id)
			}
			short := dict.New(dicts[at].Kind())
			for _, v := range dicts[at].Values()[:min(greatest, dicts[at].Len())] {
				short.Add(v)
			}
			with := slices.Clone(dicts)
			with[at] = short
			if found {
				noRows(t, "a dictionary without the greatest id", s, with, api.ErrRange)
			} else if rows, e := segment.Rows(s, with); e != api.OK || sayRows(rows) != sayRows(x.rows) {
				t.Errorf("Rows of %s: %s %d", sayRows(x.rows), sayRows(rows), e)
			}
		}
	}
}

type badSegment struct {
	what string
	s    segment.Segment
}

// sample: a segment that is good, of memory of its own.
func sample() segment.Segment {
	return segment.Segment{
		Rows:    3,
		Columns: []column.Vector{{Null: []bool{false, true, false}, Ids: []int{1, 0, 0}}, {Null: []bool{true, true, true}, Ids: []int{0, 0, 0}}, {Null: []bool{false, false, false}, Ids: []int{2, 511, 2}}},
		Zones:   []segment.Zone{{Nulls: 1, Min: integer(5), Max: integer(7)}, {Nulls: 3}, {Min: str("a"), Max: str("b")}},
	}
}

// badSegments: each is a little away from a good one.
func badSegments() []badSegment {
	l := []badSegment{{"zero", segment.Segment{}}, {"empty lists", segment.Segment{Columns: []column.Vector{}, Zones: []segment.Zone{}}}, {"rows alone", segment.Segment{Rows: 3}}}
	with := func(what string, change func(s *segment.Segment)) {
		s := sample()
		change(&s)
		l = append(l, badSegment{what, s})
	}
	for _, n := range []int{math.MinInt, -3, -1, 0, 1, 2, 4, 1001, 1 << 32, math.MaxInt} {
		with(fmt.Sprint("Rows ", n), func(s *segment.Segment) { s.Rows = n })
	}
	with("no columns", func(s *segment.Segment) { s.Columns = nil })
	with("no zones", func(s *segment.Segment) { s.Zones = nil })
	with("neither", func(s *segment.Segment) { s.Columns, s.Zones = nil, nil })
	with("a zone less", func(s *segment.Segment) { s.Zones = s.Zones[:2] })
	with("a zone more", func(s *segment.Segment) { s.Zones = append(s.Zones, s.Zones[2]) })
	with("a column less", func(s *segment.Segment) { s.Columns = s.Columns[:2] })
	with("a column more", func(s *segment.Segment) { s.Columns = append(s.Columns, s.Columns[0]) })
	for _, n := range []int{mostColumns + 1, 2 * mostColumns, 100000} {
		with(fmt.Sprint(n, " columns"), func(s *segment.Segment) {
			s.Columns, s.Zones = slices.Repeat(s.Columns[:1], n), slices.Repeat(s.Zones[:1], n)
		})
	}
	for _, n := range []int{most + 1, 100000} {
		with(fmt.Sprint(n, " rows"), func(s *segment.Segment) {
			s.Rows = n
			s.Columns = []column.Vector{{Null: make([]bool, n), Ids: make([]int, n)}}
			s.Zones = s.Zones[2:]
		})
	}
	for i := range 3 {
		with(fmt.Sprint("a row less in ", i), func(s *segment.Segment) {
			v := &s.Columns[i]
			v.Null, v.Ids = v.Null[:2], v.Ids[:2]
		})
		with(fmt.Sprint("no row in ", i), func(s *segment.Segment) { s.Columns[i] = column.Vector{} })
		with(fmt.Sprint("a row more in ", i), func(s *segment.Segment) {
			v := &s.Columns[i]
			v.Null, v.Ids = append(v.Null, v.Null[2]), append(v.Ids, v.Ids[2])
		})
		with(fmt.Sprint("a null less in ", i), func(s *segment.Segment) { s.Columns[i].Null = s.Columns[i].Null[:2] })
		with(fmt.Sprint("no nulls in ", i), func(s *segment.Segment) { s.Columns[i].Null = nil })
		with(fmt.Sprint("an id less in ", i), func(s *segment.Segment) { s.Columns[i].Ids = s.Columns[i].Ids[:2] })
		with(fmt.Sprint("no ids in ", i), func(s *segment.Segment) { s.Columns[i].Ids = nil })
		for _, id := range []int{math.MinInt, -1, 512, math.MaxInt} {
			with(fmt.Sprint("id ", id, " in ", i), func(s *segment.Segment) { s.Columns[i].Ids[2] = id })
		}
		for _, n := range []int{math.MinInt, -1, 0, 1, 2, 3, 4, math.MaxInt} {
			if n != sample().Zones[i].Nulls {
				with(fmt.Sprint(n, " Nulls in ", i), func(s *segment.Segment) { s.Zones[i].Nulls = n })
			}
		}
		with(fmt.Sprint("other Nulls in ", i), func(s *segment.Segment) {
			s.Columns[i].Null[1], s.Columns[i].Ids[1] = !s.Columns[i].Null[1], 0
		})
		for _, v := range bad() {
			with(fmt.Sprint("Min ", sayValue(v), " in ", i), func(s *segment.Segment) { s.Zones[i].Min = v })
			with(fmt.Sprint("Max ", sayValue(v), " in ", i), func(s *segment.Segment) { s.Zones[i].Max = v })
			with(fmt.Sprint("both ", sayValue(v), " in ", i), func(s *segment.Segment) { s.Zones[i].Min, s.Zones[i].Max = v, v })
		}
	}
	with("an id of a null", func(s *segment.Segment) { s.Columns[0].Ids[1] = 1 })
	for i := range 3 {
		for _, kind := range append(kinds, 0) {
			v, w := null, null
			if kind != 0 {
				p := pool(kind)
				v, w = p[0], p[len(p)-1]
			}
			if z := sample().Zones[i]; kind != z.Min.Kind {
				with(fmt.Sprint("Min of kind ", kind, " in ", i), func(s *segment.Segment) { s.Zones[i].Min = v })
				with(fmt.Sprint("Max of kind ", kind, " in ", i), func(s *segment.Segment) { s.Zones[i].Max = w })
			}
			if (kind == 0) == (i != 1) {
				with(fmt.Sprint("ends of kind ", kind, " in ", i), func(s *segment.Segment) { s.Zones[i].Min, s.Zones[i].Max = v, w })
			}
			if kind != 0 && i != 1 {
				with(fmt.Sprint("ends of kind ", kind, " turned in ", i), func(s *segment.Segment) { s.Zones[i].Min, s.Zones[i].Max = w, v })
			}
		}
	}
	with("Min one above Max", func(s *segment.Segment) { s.Zones[0].Min = integer(8) })
	with("Min above Max by a byte", func(s *segment.Segment) { s.Zones[2].Min = str("b\x00") })
	with("Min NaN, Max infinite", func(s *segment.Segment) { s.Zones[0].Min, s.Zones[0].Max = float(nan), float(inf) })
	with("Min 1, Max -1", func(s *segment.Segment) { s.Zones[0].Min, s.Zones[0].Max = float(bits(1)), float(bits(-1)) })
	return l
}

// goodSegments: those that Make makes, and others.
func goodSegments() []segment.Segment {
	l := []segment.Segment{sample()}
	for _, x := range tables() {
		s, _ := x.made()
		l = append(l, s)
	}
	with := func(change func(s *segment.Segment)) {
		s := sample()
		change(&s)
		l = append(l, s)
	}
	for _, kind := range kinds { // ends need not be those of the rows
		p := pool(kind)
		for i, v := range p {
			for _, w := range p[i:] {
				with(func(s *segment.Segment) { s.Zones[0].Min, s.Zones[0].Max = v, w })
				with(func(s *segment.Segment) { s.Zones[2].Min, s.Zones[2].Max = v, w })
			}
		}
	}
	return l
}

func TestP12_3Good(t *testing.T) {
	for i, s := range goodSegments() {
		if !segment.Good(s) {
			t.Errorf("Good of %d: %s", i, say(s))
		}
	}
	for _, c := range badSegments() {
		same(t, "Good of "+c.what, segment.Good(c.s), false)
		b, e := segment.Bytes(c.s)
		same(t, "Bytes of "+c.what, fmt.Sprint(len(b), int(e)), "0 2")
	}
	same(t, "limits", fmt.Sprint(api.MaxRows, api.MaxColumns, api.MaxIds), fmt.Sprint(most, mostColumns, mostIds))
}

// framed says again what a frame is.
func framed(content []byte) []byte {
	b := binary.LittleEndian.AppendUint32(nil, uint32(len(content)))
	b = append(b, content...)
	return binary.LittleEndian.AppendUint32(b, crc32.ChecksumIEEE(b))
}

// A part is a column's bytes, whatever they are.
type part struct{ ids, ends []byte }

func partsOf(s segment.Segment) []part {
	var l []part
	for i, v := range s.Columns {
		b, _ := column.Bytes(v)
		l = append(l, part{b, value.Bytes([]api.Value{s.Zones[i].Min, s.Zones[i].Max})})
	}
	return l
}

// content is that of a frame.
func content(rows, columns uint64, l []part) []byte {
	b := binary.AppendUvarint(binary.AppendUvarint(nil, rows), columns)
	for _, p := range l {
		b = append(binary.AppendUvarint(b, uint64(len(p.ids))), p.ids...)
		b = append(binary.AppendUvarint(b, uint64(len(p.ends))), p.ends...)
	}
	return b
}

func contentOf(s segment.Segment) []byte {
	return content(uint64(s.Rows), uint64(len(s.Columns)), partsOf(s))
}

func checkLoad(t *testing.T, b []byte, want segment.Segment) {
	t.Helper()
	s, e := segment.Load(b)
	if e != api.OK || say(s) != say(want) {
		t.Errorf("Load %v: %s %d, want %s", b, say(s), e, say(want))
	}
}

func noSegment(t *testing.T, what string, b []byte) {
	t.Helper()
	s, e := segment.Load(b)
	if e != api.ErrCorrupt || !none(s) {
		t.Errorf("Load of %s %v: %s %d", what, b, say(s), e)
	}
}

func TestP12_3Bytes(t *testing.T) {
	for _, c := range []struct {
		s    segment.Segment
		want []byte
	}{
		{segment.Segment{Rows: 1, Columns: []column.Vector{{Null: []bool{true}, Ids: []int{0}}}, Zones: []segment.Zone{{Nulls: 1}}}, []byte{1, 1, 4, 1, 1, 0, 0, 3, 2, 0, 0}},
		{segment.Segment{Rows: 1, Columns: []column.Vector{{Null: []bool{false}, Ids: []int{0}}}, Zones: []segment.Zone{{Min: integer(-1), Max: integer(300)}}}, []byte{1, 1, 4, 1, 0, 0, 0, 6, 2, 1, 1, 1, 216, 4}},
		{segment.Segment{Rows: 4, Columns: []column.Vector{{Null: make([]bool, 4), Ids: []int{5, 5, 5, 5}}, {Null: []bool{false, true, false, true}, Ids: []int{1, 0, 1, 0}}}, Zones: []segment.Zone{{Min: str("a"), Max: str("bc")}, {Nulls: 2, Min: truth(0), Max: truth(1)}}},
			[]byte{4, 2, 5, 4, 0, 1, 5, 4, 8, 2, 3, 1, 97, 3, 2, 98, 99, 5, 4, 10, 0, 1, 5, 5, 2, 4, 0, 4, 2}},
	} {
		b, e := segment.Bytes(c.s)
		same(t, "Bytes of "+say(c.s), fmt.Sprint(b, int(e)), fmt.Sprint(framed(c.want), 0))
		checkLoad(t, framed(c.want), c.s)
	}
	for _, s := range goodSegments() {
		b, e := segment.Bytes(s)
		want := framed(contentOf(s))
		if e != api.OK || !slices.Equal(b, want) {
			t.Errorf("Bytes of %s: %v %d, want %v", say(s), b, e, want)
		}
		checkLoad(t, want, s)
	}
}

// checkAny: what Load takes, Bytes tells just so.
func checkAny(t *testing.T, b []byte) bool {
	t.Helper()
	s, e := segment.Load(b)
	switch {
	case e == api.OK:
		if !segment.Good(s) || !slices.Equal(b, framed(contentOf(s))) {
			t.Errorf("Load %v: %s", b, say(s))
		}
		return true
	case e != api.ErrCorrupt || !none(s):
		t.Errorf("Load %v: %s %d", b, say(s), e)
	}
	return false
}

func TestP12_3LoadErrors(t *testing.T) {
	for _, b := range [][]byte{nil, {}, {0}, {0, 0, 0}, {0, 0, 0, 0}, {255, 255, 255, 255}, {1, 0, 4, 0, 0, 0, 0, 0}, {1, 0, 0, 0, 1}, make([]byte, 8), make([]byte, 9), make([]byte, 1<<20)} {
		noSegment(t, "no frame", b)
	}
	for _, c := range [][]byte{
		nil, {0}, {1}, {0, 0}, {1, 0}, {1, 1}, {3, 1, 0, 0}, {1, 1, 4, 1, 1, 0, 0}, {1, 1, 4, 1, 1, 0, 0, 0}, {1, 1, 4, 1, 1, 0, 0, 1, 0}, {1, 1, 4, 1, 1, 0, 0, 2, 1, 0},
		{1, 1, 4, 1, 1, 0, 0, 4, 3, 0, 0, 0}, {1, 1, 4, 1, 1, 0, 0, 3, 2, 0}, {1, 1, 4, 1, 1, 0, 0, 3, 2, 0, 0, 0}, {1, 1, 4, 1, 1, 0, 0, 4, 2, 0, 0, 0}, {1, 1, 5, 1, 1, 0, 0, 0, 3, 2, 0, 0},
		{1, 1, 3, 1, 1, 0, 3, 2, 0, 0}, {1, 1, 4, 1, 1, 0, 0, 131, 0, 2, 0, 0}, {129, 0, 1, 4, 1, 1, 0, 0, 3, 2, 0, 0}, {1, 129, 0, 4, 1, 1, 0, 0, 3, 2, 0, 0}, {1, 1, 132, 0, 1, 1, 0, 0, 3, 2, 0, 0},
		{1, 2, 4, 1, 1, 0, 0, 3, 2, 0, 0}, {1, 0, 4, 1, 1, 0, 0, 3, 2, 0, 0}, {2, 1, 4, 1, 1, 0, 0, 3, 2, 0, 0}, {0, 1, 2, 0, 1, 3, 2, 0, 0}, {1, 1, 4, 1, 0, 0, 0, 3, 2, 0, 0}, {1, 1, 4, 1, 1, 0, 0, 5, 2, 1, 2, 1, 2},
		{1, 1, 4, 1, 0, 0, 0, 5, 2, 1, 4, 1, 2}, {1, 1, 4, 1, 0, 0, 0, 5, 2, 1, 2, 4, 2}, {1, 1, 4, 1, 0, 0, 0, 4, 2, 1, 2, 0}, {1, 1, 4, 1, 0, 0, 0, 4, 2, 0, 1, 2},
		{1, 255, 255, 255, 255, 255, 255, 255, 255, 255, 1}, {255, 255, 255, 255, 255, 255, 255, 255, 255, 1, 1}, {1, 1, 255, 255, 255, 255, 255, 255, 255, 255, 255, 1, 1}, {1, 1, 255, 255, 255, 255, 255, 255, 255, 255, 127}, {1, 1, 4, 1, 1, 0, 0, 255, 255, 255, 255, 255, 255, 255, 255, 255, 1},
	} {
		noSegment(t, fmt.Sprint("content ", c), framed(c))
	}
	s := sample()
	for _, rows := range []uint64{0, 1, 2, 4, 999, 1000, 1001, 1<<32 + 3, 1 << 63, math.MaxUint64} {
		noSegment(t, "other rows", framed(content(rows, 3, partsOf(s))))
	}
	for _, columns := range []uint64{0, 1, 2, 4, 8, 9, 1 << 32, 1<<32 + 3, 1 << 63, math.MaxUint64} {
		noSegment(t, "other columns", framed(content(3, columns, partsOf(s))))
	}
	one := partsOf(s)[:1]
	for n := range 20 {
		b := framed(content(3, uint64(n), slices.Repeat(one, n)))
		same(t, fmt.Sprint(n, " columns"), checkAny(t, b), n >= 1 && n <= mostColumns)
	}
	noSegment(t, "very many columns", framed(content(3, 20000, slices.Repeat(one, 20000))))
	for _, n := range []int{0, 1, 999, 1000, 1001, 5000} {
		ids := append(binary.AppendUvarint(nil, uint64(n)), make([]byte, (n+7)/8)...)
		ids = append(ids, 0, 0)
		b := framed(content(uint64(n), 1, []part{{ids, []byte{2, 1, 2, 1, 2}}}))
		same(t, fmt.Sprint(n, " rows"), checkAny(t, b), n >= 1 && n <= most)
	}
}

func TestP12_3LoadOfParts(t *testing.T) { // of parts of any kind just those that make a good segment
	var ids []column.Vector
	for _, l := range [][]int{{}, {0}, {-1}, {3}, {0, -1}, {-1, -1}, {5, 6}, {1, 1, 1}} {
		v := column.Vector{Null: make([]bool, len(l)), Ids: make([]int, len(l))}
		for i, id := range l {
			v.Null[i], v.Ids[i] = id < 0, max(id, 0)
		}
		ids = append(ids, v)
	}
	some := []api.Value{null, integer(-1), integer(4), float(0), float(nan), str(""), str("b"), truth(0), truth(1)}
	lists := [][]api.Value{nil}
	for _, v := range some {
		lists = append(lists, rowOf(v), rowOf(v, v, v))
		for _, w := range some {
			lists = append(lists, rowOf(v, w))
		}
	}
	taken := 0
	for _, v := range ids {
		b, _ := column.Bytes(v)
		for _, l := range lists {
			for rows := range 5 {
				fit := len(v.Ids) == rows && rows > 0 && len(l) == 2 && l[0].Kind == l[1].Kind && order(l[0], l[1]) <= 0 && (l[0] == null) == !slices.Contains(v.Null, false)
				p := part{b, value.Bytes(l)}
				if checkAny(t, framed(content(uint64(rows), 1, []part{p}))) != fit {
					t.Errorf("Load of %d rows of %v with %s: not %v", rows, v, sayAll(l), fit)
				}
				other := part{[]byte{byte(rows), 0, 0, 0}, value.Bytes(rowOf(integer(1), integer(2)))}
				for _, parts := range [][]part{{p, other}, {other, p}} {
					if rows > 0 && checkAny(t, framed(content(uint64(rows), 2, parts))) != fit {
						t.Errorf("Load of %d rows of %v with %s and others: not %v", rows, v, sayAll(l), fit)
					}
				}
				if fit {
					taken++
				}
			}
		}
	}
	same(t, "some are segments", taken > 40, true)
}

func TestP12_3LoadOfChanged(t *testing.T) { // bytes of the content that are others, left out, doubled, or put behind, in a frame that is one
	for i, s := range goodSegments() {
		c := contentOf(s)
		if i > 0 && i%9 > 0 || len(c) > 40 && i%50 > 0 || len(c) > 400 {
			continue
		}
		for at := range c {
			for with := range 256 {
				d := slices.Clone(c)
				d[at] = byte(with)
				checkAny(t, framed(d))
			}
			for _, d := range [][]byte{slices.Delete(slices.Clone(c), at, at+1), slices.Insert(slices.Clone(c), at, c[at]), c[:at]} {
				checkAny(t, framed(d))
			}
		}
		for _, more := range [][]byte{{0}, {1}, {128}, {0, 0}, c} {
			noSegment(t, "more", framed(append(slices.Clone(c), more...)))
			noSegment(t, "more ahead", framed(slices.Concat(more, c, []byte{0})))
			noSegment(t, "behind the frame", append(framed(c), more...))
		}
		noSegment(t, "two frames", append(framed(c), framed(c)...))
	}
}

func TestP12_5Turned(t *testing.T) {
	for i, s := range goodSegments() {
		b := framed(contentOf(s))
		if i%20 > 0 {
			continue
		}
		for at := range b {
			for bit := range 8 {
				c := slices.Clone(b)
				c[at] ^= 1 << bit
				noSegment(t, "a turned bit", c)
			}
			if len(b) < 300 {
				noSegment(t, "a beginning", b[:at])
			}
		}
	}
}

func TestP12_5Undoes(t *testing.T) {
	for i, x := range tables() {
		dicts := x.dicts()
		s, e := segment.Make(x.kinds, x.rows, dicts)
		same(t, "Make", int(e), 0)
		rows, e := segment.Rows(s, dicts)
		if e != api.OK || sayRows(rows) != sayRows(x.rows) {
			t.Errorf("Rows undoes Make of %d: %s %d, want %s", i, sayRows(rows), e, sayRows(x.rows))
		}
		b, e := segment.Bytes(s)
		same(t, "Bytes", int(e), 0)
		checkLoad(t, b, s)
		for c := range x.kinds { // what May denies no row has
			z := s.Zones[c]
			for _, v := range append(pool(x.kinds[c]), null, integer(3), truth(1), float(inf), str("c"), x.rows[0][c]) {
				for _, op := range ops {
					if !segment.May(z, op, v, s.Rows) && slices.ContainsFunc(x.rows, func(row []api.Value) bool { return holds(row[c], op, v) }) {
						t.Errorf("May %s %s %s of %d is false of a row that is", sayZone(z), op, sayValue(v), s.Rows)
					}
				}
			}
		}
	}
}

var ops = []string{"=", "<>", "<", "<=", ">", ">="}

// holds: is a value in that relation to another one?
func holds(a api.Value, op string, b api.Value) bool {
	if a.Kind == api.Null || a.Kind != b.Kind {
		return false
	}
	n := order(a, b)
	return map[string]bool{"=": n == 0, "<>": n != 0, "<": n < 0, "<=": n <= 0, ">": n > 0, ">=": n >= 0}[op]
}

func checkMay(t *testing.T, z segment.Zone, op string, v api.Value, rows int, want bool) {
	t.Helper()
	if got := segment.May(z, op, v, rows); got != want {
		t.Errorf("May(%s, %s, %s, %d): %v, want %v", sayZone(z), op, sayValue(v), rows, got, want)
	}
}

func TestP12_4May(t *testing.T) {
	z := segment.Zone{Nulls: 1, Min: integer(5), Max: integer(7)}
	one := segment.Zone{Min: integer(5), Max: integer(5)}
	for _, c := range []struct {
		z    segment.Zone
		n    int
		want string // of each of ops
	}{
		{z, 4, "-+--++"}, {z, 5, "++-+++"}, {z, 6, "++++++"}, {z, 7, "++++-+"}, {z, 8, "-+++--"},
		{one, 4, "-+--++"}, {one, 5, "+--+-+"}, {one, 6, "-+++--"},
		{z, math.MinInt, "-+--++"}, {z, math.MaxInt, "-+++--"},
	} {
		for i, op := range ops {
			checkMay(t, c.z, op, integer(c.n), 3, c.want[i] == '+')
		}
	}
}

func TestP12_4MayOfAll(t *testing.T) { // is one of the values from Min to Max?
	for _, kind := range kinds {
		p := pool(kind)
		for i := range p {
			for j := i; j < len(p); j++ {
				z := segment.Zone{Nulls: 2, Min: p[i], Max: p[j]}
				for _, op := range ops {
					for _, v := range p {
						want := slices.ContainsFunc(p[i:j+1], func(w api.Value) bool { return holds(w, op, v) })
						checkMay(t, z, op, v, 3, want)
						checkMay(t, z, op, v, math.MaxInt, want)
						for _, rows := range []int{2, 1, 0, -1, math.MinInt} { // all rows are null
							checkMay(t, z, op, v, rows, false)
						}
					}
					checkMay(t, z, op, null, 3, false)
					checkMay(t, z, op, api.Value{N: 5, S: "a"}, 3, false)
					for _, other := range append(kinds, noKinds...) {
						if other == kind {
							continue
						}
						checkMay(t, z, op, api.Value{Kind: other}, 3, false)
						checkMay(t, z, op, api.Value{Kind: other, N: p[i].N, S: p[i].S}, 3, false)
					}
				}
			}
		}
	}
}

func TestP12_4MayNulls(t *testing.T) {
	for _, op := range ops {
		for _, nulls := range []int{math.MinInt, -1, 0, 1, 5, math.MaxInt} {
			for _, rows := range []int{math.MinInt, -1, 0, 1, 5, 6, math.MaxInt} {
				z := segment.Zone{Nulls: nulls, Min: integer(5), Max: integer(9)}
				checkMay(t, z, op, integer(6), rows, nulls < rows)
				checkMay(t, z, op, null, rows, false)
				checkMay(t, segment.Zone{Nulls: nulls}, op, integer(0), rows, false)
				checkMay(t, segment.Zone{Nulls: nulls}, op, null, rows, false)
			}
		}
	}
}

func TestP12_4MayOtherOps(t *testing.T) { // whatever the zone, the value and the rows
	five, seven := integer(5), integer(7)
	zones := []segment.Zone{{}, {Nulls: 3}, {Min: five, Max: five}, {Min: five, Max: seven}, {Nulls: 1, Min: five, Max: seven}, {Nulls: 3, Min: five, Max: seven}, {Nulls: math.MaxInt, Min: five, Max: seven}, {Nulls: -1, Min: seven, Max: five}, {Min: str("a"), Max: str("b")}, {Min: truth(0), Max: truth(1)}, {Min: float(nan), Max: float(nan)}, {Min: five, Max: str("a")}, {Max: five}, {Min: api.Value{Kind: 9}, Max: api.Value{Kind: -1}}}
	values := []api.Value{null, integer(math.MinInt), integer(4), five, integer(6), seven, integer(math.MaxInt), str(""), str("a"), str("c"), truth(0), truth(1), float(0), float(nan), {Kind: 9, N: 5}, {Kind: -1}, {N: 5, S: "a"}}
	for _, op := range []string{"", "?", "==", "!=", "=<", "=>", "<<", "= ", " =", "=\x00", "<>=", "><", "AND", "+", "IS", "like", "＝"} {
		for _, z := range zones {
			for _, v := range values {
				for _, rows := range []int{math.MinInt, -1, 0, 1, 2, 3, 4, math.MaxInt} {
					checkMay(t, z, op, v, rows, true)
				}
			}
		}
	}
}

func TestP12_4MayStrange(t *testing.T) { // zones and values that are not good go by value's Cmp
	turned := segment.Zone{Min: integer(7), Max: integer(5)}
	for _, c := range []struct {
		z    segment.Zone
		v    api.Value
		want string
	}{
		{turned, integer(6), "-+----"}, {turned, integer(5), "-+---+"}, {turned, integer(7), "-+-+--"}, {turned, integer(8), "-+++--"}, {turned, integer(4), "-+--++"},
		{segment.Zone{Min: float(0), Max: float(0)}, float(minusZero), "+--+-+"}, {segment.Zone{Min: float(minusZero), Max: float(0)}, float(0), "+--+-+"}, {segment.Zone{Min: float(nan), Max: float(nan)}, float(nan + 1), "+--+-+"}, {segment.Zone{Min: float(0), Max: float(nan + 1)}, float(nan), "++++-+"},
		{segment.Zone{Min: integer(5), Max: integer(5)}, api.Value{Kind: api.Int, N: 5, S: "a"}, "+--+-+"}, {segment.Zone{Min: str("a"), Max: str("a")}, api.Value{Kind: api.Str, N: 7, S: "a"}, "+--+-+"}, {segment.Zone{Min: api.Value{Kind: api.Str, N: 9, S: "a"}, Max: str("a")}, str("a"), "+--+-+"},
		{segment.Zone{Min: integer(5), Max: str("a")}, integer(9), "++++++"}, {segment.Zone{Min: str("a"), Max: integer(5)}, str("b"), "-+++--"}, {segment.Zone{Min: integer(5)}, integer(5), "-+-+--"}, {segment.Zone{Max: integer(5)}, integer(5), "------"},
		{segment.Zone{Min: truth(-5), Max: truth(9)}, truth(1), "++++++"}, {segment.Zone{Min: api.Value{Kind: 9, N: 3}, Max: api.Value{Kind: 9, N: 4}}, api.Value{Kind: 9, N: 3}, "++-+++"},
		{segment.Zone{}, integer(0), "------"}, {segment.Zone{Min: null, Max: integer(9)}, null, "------"}, {segment.Zone{Min: api.Value{Kind: -1}, Max: api.Value{Kind: -1}}, api.Value{Kind: -1}, "+--+-+"},
	} {
		for i, op := range ops {
			checkMay(t, c.z, op, c.v, 1, c.want[i] == '+')
		}
	}
}

// spoil writes over an answer, and over the room behind its lists.
func spoil(s segment.Segment) {
	for _, v := range s.Columns[:cap(s.Columns)] {
		for i := range v.Null[:cap(v.Null)] {
			v.Null[:cap(v.Null)][i] = !v.Null[:cap(v.Null)][i]
		}
		for i := range v.Ids[:cap(v.Ids)] {
			v.Ids[:cap(v.Ids)][i] = -9
		}
	}
	clear(s.Columns[:cap(s.Columns)])
	clear(s.Zones[:cap(s.Zones)])
}

func TestMemory(t *testing.T) {
	for i, x := range tables() {
		if i%7 > 0 {
			continue
		}
		want, behind := x.made()
		rows := slices.Clone(x.rows)
		for row := range rows {
			rows[row] = append(slices.Clone(rows[row]), str("more"), null)[:len(rows[row])]
		}
		rows = append(rows, nil, rowOf(integer(1)))[:len(rows)]
		own := append(slices.Clone(x.kinds), 77, 77)[:len(x.kinds)]
		dicts := x.dicts()
		given := append(dicts, nil, nil)[:len(dicts)]
		s, e := segment.Make(own, rows, given)
		same(t, "Make", int(e), 0)
		same(t, "the kinds stay", own[:len(own)+2], append(slices.Clone(x.kinds), 77, 77))
		same(t, "the rows stay", fmt.Sprint(rows[:len(rows)+2]), fmt.Sprint(append(slices.Clone(x.rows), nil, rowOf(integer(1)))))
		for _, row := range rows {
			same(t, "what lies behind a row stays", row[len(row):len(row)+2], []api.Value{str("more"), null})
			clear(row)
		}
		clear(own)
		same(t, "the dictionaries stay", given[len(given):len(given)+2], []*dict.Dict{nil, nil})
		same(t, "nothing is kept", say(s), say(want))

		b, _ := segment.Bytes(s)
		other, _ := segment.Bytes(s)
		same(t, "Bytes changes nothing", say(s), say(want))
		clear(other[:cap(other)])
		same(t, "an answer of its own", b, framed(contentOf(want)))
		told := append(slices.Clone(b), 1, 2, 3)
		back, e := segment.Load(told[:len(b)])
		same(t, "Load", int(e), 0)
		same(t, "the bytes stay", told, append(slices.Clone(b), 1, 2, 3))
		clear(told)
		same(t, "nothing is kept", say(back), say(want))

		l, _ := segment.Rows(s, dicts)
		for row := range l { // each row's room is its own
			clear(append(l[row][:0], slices.Repeat([]api.Value{str("spoilt")}, cap(l[row]))...))
			if row+1 < len(l) && sayAll(l[row+1]) != sayAll(x.rows[row+1]) {
				t.Errorf("row %d of %v: %v", row+1, x.rows, l[row+1])
			}
		}
		l, _ = segment.Rows(back, dicts)
		same(t, "Rows", l, x.rows)
		same(t, "Rows changes nothing", say(s), say(want))
		checkDicts(t, "behind", dicts, x.shared, behind)
		spoil(back)
		same(t, "apart", say(s), say(want))
		for c := range s.Columns { // each list's room is its own
			v := s.Columns[c]
			_ = append(append(v.Null, true, true, true), v.Null...)
			_ = append(append(v.Ids, -3, -3, -3), v.Ids...)
		}
		_ = append(s.Columns, column.Vector{})
		_ = append(s.Zones, segment.Zone{Nulls: 9})
		same(t, "no two lists share", say(s), say(want))
		spoil(s)
		checkDicts(t, "behind", dicts, x.shared, behind)
	}
}

func TestTextsAreNotKept(t *testing.T) {
	bytes := []byte("bcd")
	text := str(unsafe.String(&bytes[0], len(bytes)))
	d := dict.New(api.Str)
	s, e := segment.Make([]int{api.Str}, single(text, null, text), []*dict.Dict{d})
	same(t, "Make", int(e), 0)
	other, e := segment.Make([]int{api.Str}, single(str("b"), text, str("c"), text, str("bc")), []*dict.Dict{d})
	same(t, "Make", int(e), 0)
	copy(bytes, "xyz")
	same(t, "changed behind", say(s), `3 [{[false true false] [0 0 0]}] 1 {3 0 "bcd"}{3 0 "bcd"}`)
	same(t, "changed behind", say(other), `5 [{[false false false false false] [1 0 2 0 3]}] 0 {3 0 "b"}{3 0 "c"}`)
	same(t, "changed behind", d.Values(), []api.Value{str("bcd"), str("b"), str("c"), str("bc")})
}
