package cell_test

import (
	"fmt"
	"math"
	"math/big"
	"math/rand"
	"slices"
	"strings"
	"testing"
	"unsafe"

	"talus/api"
	"talus/cell"
	"talus/digest"
	"talus/heavy"
	"talus/kmv"
	"talus/order"
)

const (
	prime = 1<<61 - 1
	nan   = 0x7ff8000000000000
	inf   = 0x7ff0000000000000
	below = math.MinInt // the bit of the sign
)

func same(t *testing.T, what string, got, want any) {
	t.Helper()
	if a, b := fmt.Sprintf("%+v", got), fmt.Sprintf("%+v", want); a != b {
		t.Errorf("%s: %s, want %s", what, a, b)
	}
}

// say puts a blank between all, texts too.
func say(l ...any) string { return strings.TrimSuffix(fmt.Sprintln(l...), "\n") }

func integer(n int) api.Value { return api.Value{Kind: api.Int, N: n} }
func float(n int) api.Value   { return api.Value{Kind: api.Float, N: n} }
func str(s string) api.Value  { return api.Value{Kind: api.Str, S: s} }
func truth(n int) api.Value   { return api.Value{Kind: api.Bool, N: n} }

func bitsOf(x float64) int { return int(math.Float64bits(x)) }

func measure(kind int) api.Measure { return api.Measure{Kind: kind, Column: "a"} }

func small() api.Settings {
	return api.Settings{T: 4, Seeds: []api.Seed{{A: 3, B: 1}, {A: prime - 2, B: 7}, {A: 1 << 40, B: prime - 1}}, K: 2, M: 2}
}

// all are the measures that columns of a kind can have.
func all(kind int) []api.Measure {
	l := []api.Measure{measure(api.MeasureCount)}
	if kind == api.Int {
		l = append(l, measure(api.MeasureSum))
	}
	l = append(l, measure(api.MeasureMin), measure(api.MeasureMax), measure(api.MeasureDistinct))
	if kind == api.Int || kind == api.Float {
		l = append(l, measure(api.MeasureQuantile))
	}
	return append(l, measure(api.MeasureTop))
}

func alike[T any](x T, n int) []T {
	l := make([]T, n)
	for i := range l {
		l[i] = x
	}
	return l
}

// A second, plain cell: it keeps the rows, and reckons all that they tell anew; of the sketches that look at the order it keeps those of the layers below.

type row struct {
	values []api.Value
	ids    []int
}

type plain struct {
	measures []api.Measure
	kinds    []int
	settings api.Settings
	rows     []row
	keys     []*digest.Digest
	counters []*heavy.Sketch
}

func newPlain(l []api.Measure, kinds []int, s api.Settings) *plain {
	p := &plain{measures: l, kinds: kinds, settings: s}
	for range l {
		p.keys = append(p.keys, digest.New(s.K))
		p.counters = append(p.counters, heavy.New(s.M))
	}
	return p
}

func (p *plain) add(values []api.Value, ids []int) {
	p.rows = append(p.rows, row{slices.Clone(values), slices.Clone(ids)})
	for i, v := range values {
		switch v.Kind {
		case api.Null:
			continue
		case api.Int:
			p.keys[i].Insert(uint64(v.N) + 1<<63)
		case api.Float:
			p.keys[i].Insert(order.Key(v.N))
		}
		p.counters[i].Insert(ids[i])
	}
}

func (p *plain) merge(o *plain) {
	p.rows = append(p.rows, slices.Clone(o.rows)...)
	for i := range p.measures {
		p.keys[i].Merge(o.keys[i])
		p.counters[i].Merge(o.counters[i])
	}
}

func (p *plain) copied() *plain {
	o := newPlain(p.measures, p.kinds, p.settings)
	o.rows = slices.Clone(p.rows)
	for i := range p.measures {
		o.keys[i] = p.keys[i].Copy()
		o.counters[i] = p.counters[i].Copy()
	}
	return o
}

// of are the values of a measure that are no Nulls, and their ids.
func (p *plain) of(i int) ([]api.Value, []int) {
	var l []api.Value
	var ids []int
	for _, r := range p.rows {
		if r.values[i].Kind != api.Null {
			l = append(l, r.values[i])
			ids = append(ids, r.ids[i])
		}
	}
	return l, ids
}

// less says it without the layers below.
func less(a, b api.Value) bool {
	x, y := math.Float64frombits(uint64(a.N)), math.Float64frombits(uint64(b.N))
	switch a.Kind {
	case api.Str:
		return a.S < b.S
	case api.Float:
		return x < y || x == x && y != y
	}
	return a.N < b.N
}

func ends(l []api.Value) (least, greatest api.Value) {
	for i, v := range l {
		if i == 0 || less(v, least) {
			least = v
		}
		if i == 0 || less(greatest, v) {
			greatest = v
		}
	}
	return least, greatest
}

func summed(l []api.Value) string {
	n := new(big.Int)
	for _, v := range l {
		n.Add(n, big.NewInt(int64(v.N)))
	}
	return n.String()
}

func wideText(w api.Wide) string {
	n := new(big.Int).Lsh(big.NewInt(int64(w.Hi)), 64)
	return n.Add(n, new(big.Int).SetUint64(w.Lo)).String()
}

func (p *plain) distinct(ids []int) int {
	k := kmv.New(p.settings)
	for _, id := range ids {
		k.Insert(uint64(id))
	}
	return k.Estimate()
}

func (p *plain) quantile(i, mille int) api.Value {
	d := p.keys[i]
	key, ok := d.Rank(digest.Target(d.Count(), mille))
	switch {
	case !ok:
		return api.Value{}
	case p.kinds[i] == api.Int:
		return integer(int(key - 1<<63))
	}
	return float(order.Back(key))
}

var milles = []int{math.MinInt, -1, 0, 1, 250, 500, 501, 999, 1000, 1001, math.MaxInt}

var tops = []int{math.MinInt, -1, 0, 1, 2, 3, api.MaxSketch, math.MaxInt}

// told is all that measure i may tell, in a text.
func (p *plain) told(i int) string {
	kind := 0
	var values []api.Value
	var ids []int
	if i >= 0 && i < len(p.measures) {
		kind = p.measures[i].Kind
		values, ids = p.of(i)
	}
	least, greatest := ends(values)
	var b strings.Builder
	line := func(what string, its int, x any, none any) {
		if kind != its {
			x = none
		}
		fmt.Fprintf(&b, "%s %+v %v\n", what, x, kind == its)
	}
	line("count", api.MeasureCount, len(values), 0)
	line("sum", api.MeasureSum, say(summed(values), len(values)), "0 0")
	line("least", api.MeasureMin, least, api.Value{})
	line("greatest", api.MeasureMax, greatest, api.Value{})
	distinct := 0
	if kind == api.MeasureDistinct {
		distinct = p.distinct(ids)
	}
	line("distinct", api.MeasureDistinct, distinct, 0)
	for _, mille := range milles {
		var v api.Value
		if kind == api.MeasureQuantile {
			v = p.quantile(i, mille)
		}
		line("quantile", api.MeasureQuantile, v, api.Value{})
	}
	for _, n := range tops {
		var l []heavy.Counter
		if kind == api.MeasureTop {
			l = p.counters[i].Top(n)
		}
		line("top", api.MeasureTop, l, []heavy.Counter{})
	}
	return b.String()
}

func told(c *cell.Cell, i int) string {
	var b strings.Builder
	line := func(what string, x any, ok bool) { fmt.Fprintf(&b, "%s %+v %v\n", what, x, ok) }
	n, ok := c.Count(i)
	line("count", n, ok)
	w, n, ok := c.Sum(i)
	line("sum", say(wideText(w), n), ok)
	v, ok := c.Least(i)
	line("least", v, ok)
	v, ok = c.Greatest(i)
	line("greatest", v, ok)
	n, ok = c.Distinct(i)
	line("distinct", n, ok)
	for _, mille := range milles {
		v, ok = c.Quantile(i, mille)
		line("quantile", v, ok)
	}
	for _, n := range tops {
		l, ok := c.Top(i, n)
		line("top", l, ok)
	}
	return b.String()
}

// places are those of measures, and such as are none.
func places(measures int) []int {
	l := []int{math.MinInt, -1, measures, measures + 1, math.MaxInt}
	for i := range measures {
		l = append(l, i)
	}
	return l
}

func tells(c *cell.Cell, measures int) string {
	s := fmt.Sprintln(c.Rows())
	for _, i := range places(measures) {
		s += fmt.Sprintln(i, told(c, i))
	}
	return s
}

func holds(t *testing.T, what string, c *cell.Cell, p *plain) {
	t.Helper()
	same(t, what+": Rows", c.Rows(), len(p.rows))
	for _, i := range places(len(p.measures)) {
		got, want := strings.Split(told(c, i), "\n"), strings.Split(p.told(i), "\n")
		for at := range want {
			if got[at] != want[at] {
				t.Fatalf("%s: measure %d: %s, want %s", what, i, got[at], want[at])
			}
		}
	}
}

// values are some of a column of a kind, those at the ends among them.
func values(kind int) []api.Value {
	switch kind {
	case api.Int:
		return []api.Value{integer(math.MinInt), integer(math.MinInt + 1), integer(-3), integer(-1), integer(0), integer(1), integer(5), integer(1 << 40), integer(math.MaxInt)}
	case api.Float:
		return []api.Value{float(inf | below), float(bitsOf(-1e300)), float(bitsOf(-0.5)), float(1 | below), float(0), float(1), float(bitsOf(2)), float(bitsOf(math.MaxFloat64)), float(inf), float(nan)}
	case api.Str:
		return []api.Value{str(""), str("a"), str("ab"), str("b"), str("\x00"), str("\xff"), str("é"), str(strings.Repeat("z", api.MaxText))}
	}
	return []api.Value{truth(0), truth(1)}
}

var kinds = []int{api.Int, api.Float, api.Str, api.Bool}

// shape is one measure of each sort of each kind of column, as many as there may be, with others each time.
func shape(r *rand.Rand) ([]api.Measure, []int) {
	var l []api.Measure
	var its []int
	for _, kind := range kinds {
		for _, m := range all(kind) {
			l = append(l, m)
			its = append(its, kind)
		}
	}
	r.Shuffle(len(l), func(i, j int) {
		l[i], l[j] = l[j], l[i]
		its[i], its[j] = its[j], its[i]
	})
	n := r.Intn(17)
	return l[:n], its[:n]
}

func anyRow(r *rand.Rand, kinds []int, unlike int) ([]api.Value, []int) {
	var l []api.Value
	var ids []int
	for _, kind := range kinds {
		its := values(kind)
		v := its[r.Intn(len(its))]
		switch {
		case r.Intn(4) == 0:
			v = api.Value{}
		case kind == api.Int && r.Intn(2) == 0:
			v = integer(int(r.Uint64()) >> r.Intn(64))
		}
		l = append(l, v)
		ids = append(ids, r.Intn(unlike))
	}
	return l, ids
}

func TestP15_1New(t *testing.T) {
	s := small()
	for m := -2; m <= 10; m++ {
		for k := -2; k <= 7; k++ {
			want := m >= 1 && m <= 7 && k >= 1 && k <= 4
			want = want && (m != api.MeasureSum || k == api.Int) && (m != api.MeasureQuantile || k == api.Int || k == api.Float)
			l, its := []api.Measure{measure(m)}, []int{k}
			c := cell.New(l, its, s)
			same(t, say("New", m, "of", k), c != nil, want)
			if c != nil {
				holds(t, say("no rows", m, "of", k), c, newPlain(l, its, s))
			}
			for at := range 3 { // one among others
				l, its := alike(measure(api.MeasureCount), 3), alike(api.Str, 3)
				l[at], its[at] = measure(m), k
				same(t, say("New at", at, ":", m, "of", k), cell.New(l, its, s) != nil, want)
			}
		}
	}
	for _, n := range []int{math.MinInt, math.MaxInt, 1 << 32, 1<<32 + 1} {
		same(t, "New, a measure at an end", cell.New([]api.Measure{measure(n)}, []int{1}, s) == nil, true)
		same(t, "New, a kind at an end", cell.New([]api.Measure{measure(1)}, []int{n}, s) == nil, true)
	}
}

func TestP15_1NewCounts(t *testing.T) {
	for measures := range 20 {
		for kinds := range 20 {
			c := cell.New(alike(measure(api.MeasureCount), measures), alike(api.Int, kinds), small())
			same(t, say("New", measures, kinds), c != nil, measures == kinds && measures <= 16)
			if c != nil {
				same(t, "Add", c.Add(make([]api.Value, measures), make([]int, measures)), api.OK)
				same(t, "Rows", c.Rows(), 1)
			}
		}
	}
	same(t, "New of nothing", cell.New(nil, nil, small()).Rows(), 0)
	same(t, "New of empty lists", cell.New([]api.Measure{}, []int{}, small()).Add([]api.Value{}, nil), api.OK)
	same(t, "New of thousands", cell.New(make([]api.Measure, 5000), make([]int, 5000), small()) == nil, true)
}

// A measure's column may have any name, and the same measure may come twice.
func TestP15_1NewNames(t *testing.T) {
	for _, name := range []string{"", "select", "A b", "\xff", strings.Repeat("x", 5000)} {
		m := api.Measure{Kind: api.MeasureSum, Column: name}
		c := cell.New([]api.Measure{m, m}, []int{1, 1}, small())
		same(t, "Add", c.Add([]api.Value{integer(2), integer(3)}, []int{0, 0}), api.OK)
		w, n, ok := c.Sum(1)
		same(t, "Sum "+name, say(w, n, ok), "{0 3} 1 true")
	}
}

func TestP15_1NewSettings(t *testing.T) {
	ways := []func(s *api.Settings){
		func(s *api.Settings) { s.T = 1 }, func(s *api.Settings) { s.T = 0 }, func(s *api.Settings) { s.T = 65 }, func(s *api.Settings) { s.T = math.MinInt },
		func(s *api.Settings) { s.Seeds = nil }, func(s *api.Settings) { s.Seeds = s.Seeds[:2] },
		func(s *api.Settings) { s.Seeds = alike(api.Seed{A: 1}, 9) }, func(s *api.Settings) { s.Seeds[1].A = 0 },
		func(s *api.Settings) { s.Seeds[0].A = prime }, func(s *api.Settings) { s.Seeds[2].B = prime }, func(s *api.Settings) { s.Seeds[2].B = math.MaxUint64 },
		func(s *api.Settings) { s.K = 0 }, func(s *api.Settings) { s.K = 65 }, func(s *api.Settings) { s.K = -1 },
		func(s *api.Settings) { s.M = 0 }, func(s *api.Settings) { s.M = 65 }, func(s *api.Settings) { s.M = math.MaxInt },
	}
	for i, way := range ways {
		s := small()
		way(&s)
		for kind := 1; kind <= 7; kind++ { // also those that ask nothing of the settings
			same(t, say("New, settings", i, "measure", kind), cell.New([]api.Measure{measure(kind)}, []int{1}, s) == nil, true)
		}
		same(t, say("New of nothing, settings", i), cell.New(nil, nil, s) == nil, true)
	}
	for _, n := range []int{1, 3, 5, 7} {
		s := api.Settings{T: 2, Seeds: alike(api.Seed{A: 1}, n), K: 1, M: 1}
		same(t, "New, least settings", cell.New(all(1), alike(1, 7), s) != nil, true)
		s.T, s.K, s.M = 64, 64, 64
		same(t, "New, greatest settings", cell.New(all(1), alike(1, 7), s) != nil, true)
	}
}

func TestP15_2Add(t *testing.T) {
	for seed := range int64(60) {
		r := rand.New(rand.NewSource(seed))
		l, its := shape(r)
		c, p := cell.New(l, its, small()), newPlain(l, its, small())
		unlike := []int{2, 20, math.MaxInt}[r.Intn(3)]
		for range r.Intn(150) {
			values, ids := anyRow(r, its, unlike)
			same(t, "Add", c.Add(values, ids), api.OK)
			p.add(values, ids)
			if r.Intn(40) == 0 {
				holds(t, "between", c, p)
			}
		}
		holds(t, say("seed", seed), c, p)
	}
}

func TestP15_2AddNulls(t *testing.T) {
	for _, kind := range kinds {
		l := all(kind)
		its := alike(kind, len(l))
		c, p := cell.New(l, its, small()), newPlain(l, its, small())
		for range 3 {
			same(t, "Add Nulls", c.Add(make([]api.Value, len(l)), alike(9, len(l))), api.OK)
			p.add(make([]api.Value, len(l)), alike(9, len(l)))
		}
		holds(t, say("only Nulls,", kind), c, p)
		for _, v := range values(kind) {
			c.Add(alike(v, len(l)), alike(1, len(l)))
			p.add(alike(v, len(l)), alike(1, len(l)))
			holds(t, say("and", v), c, p)
		}
	}
}

// Of each single value, and of each two in both orders: Nulls are no least ones, nor is a 0 that is none.
func TestP15_2AddEnds(t *testing.T) {
	for _, kind := range kinds {
		l := []api.Measure{measure(api.MeasureMin), measure(api.MeasureMax)}
		for _, a := range append(values(kind), api.Value{}) {
			for _, b := range append(values(kind), api.Value{}) {
				c, p := cell.New(l, alike(kind, 2), small()), newPlain(l, alike(kind, 2), small())
				for _, v := range []api.Value{a, b} {
					c.Add(alike(v, 2), alike(0, 2))
					p.add(alike(v, 2), alike(0, 2))
				}
				holds(t, say(a, b), c, p)
			}
		}
	}
}

// Ids may be any ints: to a distinct sketch they are numbers without a sign.
func TestP15_2AddIds(t *testing.T) {
	l := []api.Measure{measure(api.MeasureDistinct), measure(api.MeasureTop)}
	c, p := cell.New(l, alike(api.Bool, 2), small()), newPlain(l, alike(api.Bool, 2), small())
	for _, id := range []int{0, -1, math.MinInt, math.MaxInt, prime, prime - 1, 7, -1, -1} {
		same(t, "Add", c.Add(alike(truth(1), 2), alike(id, 2)), api.OK)
		p.add(alike(truth(1), 2), alike(id, 2))
		holds(t, say("id", id), c, p)
	}
	s := small()
	s.T = 64
	c = cell.New(l[:1], []int{api.Int}, s)
	for _, id := range []int{0, prime, -1, 7, 511, 7, 511} { // 2^64 - 1 is 7 modulo 2^61 - 1
		c.Add([]api.Value{integer(3)}, []int{id})
	}
	n, ok := c.Distinct(0)
	same(t, "Distinct", say(n, ok), "3 true")
}

// Each measure has a value and an id of its own.
func TestP15_2AddEach(t *testing.T) {
	var l []api.Measure
	for kind := 1; kind <= 7; kind++ {
		l = append(l, measure(kind), measure(kind))
	}
	c, p := cell.New(l, alike(api.Int, len(l)), small()), newPlain(l, alike(api.Int, len(l)), small())
	for n := range 5 {
		var values []api.Value
		var ids []int
		for i := range l {
			values = append(values, integer(n*100+i))
			ids = append(ids, n*100+50+i)
			if (n+i)%3 == 0 {
				values[i] = api.Value{}
			}
		}
		same(t, "Add", c.Add(values, ids), api.OK)
		p.add(values, ids)
		holds(t, say("row", n), c, p)
	}
}

func misfits(kind int) []api.Value {
	l := []api.Value{{N: 1}, {S: "x"}, {Kind: 5}, {Kind: -1}, {Kind: math.MaxInt}, {Kind: math.MinInt},
		{Kind: api.Int, S: "x"}, {Kind: api.Float, S: "x"}, float(nan + 1), float(nan | below), float(below), float(inf + 1),
		{Kind: api.Str, N: 1}, str(strings.Repeat("z", api.MaxText+1)), truth(2), truth(-1), {Kind: api.Bool, S: "x"}}
	for _, other := range kinds {
		if other != kind {
			l = append(l, values(other)...)
		}
	}
	return l
}

func TestP15_2AddErrors(t *testing.T) {
	for _, kind := range kinds {
		l := all(kind)
		n := len(l)
		c := cell.New(l, alike(kind, n), small())
		good := values(kind)[0]
		c.Add(alike(good, n), make([]int, n))
		was := tells(c, n)
		for _, bad := range misfits(kind) {
			for at := range n {
				values := alike(good, n)
				values[at] = bad
				same(t, say("Add", bad, "to", kind), c.Add(values, make([]int, n)), api.ErrType)
				same(t, "Add of too few ids", c.Add(values, make([]int, n-1)), api.ErrArg)
				same(t, "Add of too many", c.Add(append(values, good), make([]int, n)), api.ErrArg)
			}
		}
		for values := range n + 3 {
			for ids := range n + 3 {
				if values != n || ids != n {
					same(t, say("Add", values, ids), c.Add(alike(good, values), make([]int, ids)), api.ErrArg)
				}
			}
		}
		same(t, "Add of nothing", c.Add(nil, nil), api.ErrArg)
		same(t, "behind errors", tells(c, n), was)
	}
	c := cell.New(nil, nil, small())
	same(t, "Add", c.Add([]api.Value{{}}, nil), api.ErrArg)
	same(t, "Add", c.Add(nil, []int{1}), api.ErrArg)
	same(t, "Rows", c.Rows(), 0)
}

func TestP15_2Merge(t *testing.T) {
	for seed := range int64(60) {
		r := rand.New(rand.NewSource(seed))
		l, its := shape(r)
		var cells []*cell.Cell
		var plains []*plain
		for range 4 {
			c, p := cell.New(l, its, small()), newPlain(l, its, small())
			for range []int{0, 1, 5, 60}[r.Intn(4)] {
				values, ids := anyRow(r, its, 10)
				c.Add(values, ids)
				p.add(values, ids)
			}
			cells, plains = append(cells, c), append(plains, p)
		}
		for range 5 {
			a, b := r.Intn(4), r.Intn(4) // often the same
			was := plains[b].copied()
			same(t, "Merge", cells[a].Merge(cells[b]), api.OK)
			plains[a].merge(was)
			values, ids := anyRow(r, its, 10)
			same(t, "Add", cells[a].Add(values, ids), api.OK)
			plains[a].add(values, ids)
		}
		for i := range cells {
			holds(t, say("seed", seed, "cell", i), cells[i], plains[i])
		}
	}
}

func TestP15_2MergeOfNothing(t *testing.T) {
	for _, kind := range kinds {
		l := all(kind)
		its := alike(kind, len(l))
		for _, v := range append(values(kind), api.Value{}) {
			full, empty := cell.New(l, its, small()), cell.New(l, its, small())
			p := newPlain(l, its, small())
			full.Add(alike(v, len(l)), alike(4, len(l)))
			p.add(alike(v, len(l)), alike(4, len(l)))
			same(t, "Merge of nothing", full.Merge(empty), api.OK)
			holds(t, "with nothing", full, p)
			holds(t, "nothing stays", empty, newPlain(l, its, small()))
			same(t, "Merge into nothing", empty.Merge(full), api.OK)
			holds(t, "into nothing", empty, p)
			holds(t, "it stays", full, p)
		}
	}
	a := cell.New(nil, nil, small())
	a.Add(nil, nil)
	same(t, "Merge", a.Merge(a), api.OK)
	same(t, "Rows", a.Rows(), 2)
}

func TestP15_2MergeErrors(t *testing.T) {
	l := []api.Measure{{Kind: api.MeasureMin, Column: "a"}, {Kind: api.MeasureMax, Column: "b"}, {Kind: api.MeasureTop, Column: "a"}}
	its := []int{1, 2, 3}
	row := []api.Value{integer(5), float(0), str("x")}
	c := cell.New(l, its, small())
	c.Add(row, make([]int, 3))
	was := tells(c, 3)
	var others []*cell.Cell
	with := func(l []api.Measure, kinds []int, s api.Settings) {
		o := cell.New(l, kinds, s)
		if o == nil {
			t.Fatalf("no cell %v %v %v", l, kinds, s)
		}
		others = append(others, o)
	}
	with(l[:2], its[:2], small())
	with(nil, nil, small())
	with(append(slices.Clone(l), l[2]), []int{1, 2, 3, 3}, small())
	for at := range 3 {
		m := slices.Clone(l)
		m[at].Kind = api.MeasureCount
		with(m, its, small())
		m = slices.Clone(l)
		m[at].Column = "c"
		with(m, its, small())
		k := slices.Clone(its)
		k[at] = api.Bool
		with(l, k, small())
	}
	with([]api.Measure{l[2], l[1], l[0]}, []int{3, 2, 1}, small())
	for _, way := range []func(s *api.Settings){
		func(s *api.Settings) { s.T++ }, func(s *api.Settings) { s.K++ }, func(s *api.Settings) { s.M++ },
		func(s *api.Settings) { s.Seeds = s.Seeds[:1] }, func(s *api.Settings) { s.Seeds[2].A++ }, func(s *api.Settings) { s.Seeds[0].B++ },
		func(s *api.Settings) { s.Seeds[0], s.Seeds[1] = s.Seeds[1], s.Seeds[0] },
	} {
		s := small()
		way(&s)
		with(l, its, s)
	}
	for i, o := range others {
		same(t, say("Merge of another", i), c.Merge(o), api.ErrArg)
		same(t, say("Merge into another", i), o.Merge(c), api.ErrArg)
		same(t, "the other stays", o.Rows(), 0)
	}
	same(t, "Merge of nil", c.Merge(nil), api.ErrArg)
	same(t, "Merge of one that no call made", c.Merge(&cell.Cell{}), api.ErrArg)
	same(t, "behind errors", tells(c, 3), was)
	twin := cell.New(slices.Clone(l), slices.Clone(its), small())
	same(t, "Merge of its like", twin.Merge(c), api.OK)
	same(t, "Rows", twin.Rows(), 1)
}

// Settings that a measure does not look at are settings, too; so are the columns of no measures.
func TestP15_2MergeSettings(t *testing.T) {
	s := small()
	s.K++
	for _, l := range [][]api.Measure{nil, {measure(api.MeasureCount)}} {
		c, o := cell.New(l, alike(1, len(l)), small()), cell.New(l, alike(1, len(l)), s)
		same(t, "Merge", c.Merge(o), api.ErrArg)
	}
}

// A cell that is merged with itself over and over: its sketches take no more when they are full; its sums stay, where 128 bits end, and its counts, where ints do.
func TestP15_2MergeDoubled(t *testing.T) {
	least := new(big.Int).Lsh(big.NewInt(-1), 127)
	most := new(big.Int).Not(least)
	for _, n := range []int{5, -1, 1, math.MinInt, math.MaxInt} {
		l := all(api.Int)
		c := cell.New(l, alike(api.Int, 7), small())
		c.Add(alike(integer(n), 7), alike(3, 7))
		sum := big.NewInt(int64(n))
		rows := 1
		for times := range 140 {
			same(t, "Merge", c.Merge(c), api.OK)
			if rows <= math.MaxInt/2 {
				rows *= 2
			}
			if twice := new(big.Int).Lsh(sum, 1); twice.Cmp(least) >= 0 && twice.Cmp(most) <= 0 {
				sum = twice
			}
			counted, _ := c.Count(0)
			w, summed, ok := c.Sum(1)
			same(t, say(times, "rows"), []int{c.Rows(), counted, summed}, []int{rows, rows, rows})
			same(t, say(times, "sum of", n), say(wideText(w), ok), say(sum, true))
			top, _ := c.Top(6, 1)
			same(t, "top", top, []heavy.Counter{{Id: 3, Count: min(rows, 1<<50)}})
			median, _ := c.Quantile(5, 500)
			same(t, "quantile", median, integer(n))
		}
		same(t, "Add to a full one", c.Add(alike(integer(7), 7), alike(4, 7)), api.OK)
		same(t, "Rows", c.Rows(), rows+1)
		greatest, _ := c.Greatest(3)
		same(t, "Greatest", greatest, integer(max(n, 7)))
		distinct, _ := c.Distinct(4)
		same(t, "Distinct", distinct, 2)
	}
}

// Counts go up to the greatest int, and stay there.
func TestP15_2MergeMost(t *testing.T) {
	l := []api.Measure{measure(api.MeasureCount), measure(api.MeasureSum)}
	its, more := cell.New(l, alike(1, 2), small()), cell.New(l, alike(1, 2), small())
	more.Add(alike(integer(-3), 2), alike(0, 2))
	for range 63 { // 1 and 2 and 4, up to 2^62
		its.Merge(more)
		more.Merge(more)
	}
	most := new(big.Int).Mul(big.NewInt(math.MaxInt), big.NewInt(-3))
	for range 3 {
		n, _ := its.Count(0)
		w, summed, _ := its.Sum(1)
		same(t, "most", say(its.Rows(), n, summed, wideText(w)), say(math.MaxInt, math.MaxInt, math.MaxInt, most))
		same(t, "Add", its.Add(alike(integer(-1), 2), alike(0, 2)), api.OK)
		most.Sub(most, big.NewInt(1))
	}
}

// A digest that is full stays as it is, whatever comes: the cell takes the rest of the row.
func TestP15_2MergeFull(t *testing.T) {
	l := []api.Measure{measure(api.MeasureQuantile), measure(api.MeasureTop), measure(api.MeasureMax), measure(api.MeasureCount)}
	a, b := cell.New(l, alike(1, 4), small()), cell.New(l, alike(1, 4), small())
	a.Add(alike(integer(5), 4), alike(5, 4))
	b.Add(alike(integer(9), 4), alike(9, 4))
	for range 50 {
		a.Merge(a)
	}
	same(t, "Merge", a.Merge(b), api.OK)
	q, _ := a.Quantile(0, 1000)
	top, _ := a.Top(1, 9)
	most, _ := a.Greatest(2)
	n, _ := a.Count(3)
	same(t, "full", say(q, top, most, n, a.Rows()), say(integer(5), []heavy.Counter{{Id: 5, Count: 1 << 50}}, integer(9), 1<<50+1, 1<<50+1))
	same(t, "Merge", b.Merge(a), api.OK)
	q, _ = b.Quantile(0, 1000)
	top, _ = b.Top(1, 9)
	same(t, "not full", say(q, top, b.Rows()), say(integer(9), []heavy.Counter{{Id: 9, Count: 1}}, 1<<50+2))
}

func TestP15_3Example(t *testing.T) {
	c := cell.New([]api.Measure{measure(api.MeasureSum), measure(api.MeasureMin)}, []int{1, 1}, small())
	for _, v := range []api.Value{integer(5), {}, integer(7)} {
		same(t, "Add", c.Add([]api.Value{v, v}, []int{0, 0}), api.OK)
	}
	w, n, ok := c.Sum(0)
	same(t, "Sum", say(w, n, ok), "{0 12} 2 true")
	v, ok := c.Least(1)
	same(t, "Least", say(v, ok), say(integer(5), true))
	same(t, "Rows", c.Rows(), 3)
}

func TestP15_3Sum(t *testing.T) {
	c := cell.New([]api.Measure{measure(api.MeasureSum)}, []int{1}, small())
	for i, want := range []string{"{0 9223372036854775807} 1 true", "{0 18446744073709551614} 2 true", "{1 9223372036854775805} 3 true"} {
		c.Add([]api.Value{integer(math.MaxInt)}, []int{i})
		w, n, ok := c.Sum(0)
		same(t, "Sum", say(w, n, ok), want)
	}
	for range 4 {
		c.Add([]api.Value{integer(math.MinInt)}, []int{0})
	}
	w, n, ok := c.Sum(0)
	same(t, "Sum", say(w, n, ok), say(api.Wide{Hi: -1, Lo: 1<<63 - 3}, 7, true))
}

// As long as a digest has room for all, its quantiles are the values themselves.
func TestP15_3Quantile(t *testing.T) {
	for _, kind := range []int{api.Int, api.Float} {
		l := append(values(kind), values(kind)[2:5]...)
		c := cell.New([]api.Measure{measure(api.MeasureQuantile)}, []int{kind}, small())
		for i := range l {
			c.Add([]api.Value{l[(i*5)%len(l)]}, []int{0})
			c.Add([]api.Value{{}}, []int{0})
		}
		for i := range l {
			c.Add([]api.Value{l[i]}, []int{0})
		}
		its := slices.Clone(l)
		for i := range l {
			its = append(its, l[(i*5)%len(l)])
		}
		slices.SortFunc(its, func(a, b api.Value) int {
			switch {
			case less(a, b):
				return -1
			case less(b, a):
				return 1
			}
			return 0
		})
		for mille := -3; mille <= 1003; mille++ {
			at := (len(its)*min(max(mille, 0), 1000) + 999) / 1000
			v, ok := c.Quantile(0, mille)
			same(t, say("Quantile", mille), say(v, ok), say(its[max(at, 1)-1], true))
		}
	}
}

// Of many values a digest tells numbers that none of them was: those of ints are ints, those of floats good floats; a number that is the key of none is 0, as order's Back says.
func TestP15_3QuantileBetween(t *testing.T) {
	s := small()
	s.K = 8
	l := []api.Measure{measure(api.MeasureQuantile), measure(api.MeasureQuantile)}
	c, p := cell.New(l, []int{api.Int, api.Float}, s), newPlain(l, []int{api.Int, api.Float}, s)
	for i := range 400 {
		values := []api.Value{integer(i * i * 1001), float(bitsOf(float64(i) * 1.5))}
		switch i % 12 { // few enough to be lifted, but not both into one node
		case 0:
			values[1] = float(inf)
		case 6:
			values[1] = float(nan)
		}
		same(t, "Add", c.Add(values, []int{0, 0}), api.OK)
		p.add(values, []int{0, 0})
	}
	holds(t, "many", c, p)
	none := 0
	for mille := range 1001 {
		v, ok := c.Quantile(1, mille)
		same(t, "Quantile", ok && v.Kind == api.Float && order.Good(v.N), true)
		same(t, "as a digest says", v, p.quantile(1, mille))
		if v == float(0) {
			none++
		}
	}
	if none == 0 {
		t.Error("no number was the key of none")
	}
}

func TestP15_3Top(t *testing.T) {
	c := cell.New([]api.Measure{measure(api.MeasureTop)}, []int{api.Str}, small())
	for _, id := range []int{1, 1, 2, 3} {
		c.Add([]api.Value{str("x")}, []int{id})
	}
	l, ok := c.Top(0, 5)
	same(t, "Top", say(l, ok), "[{1 1}] true")
	c.Add([]api.Value{str("x")}, []int{-4})
	for n, want := range []string{"[] true", "[{-4 1}] true", "[{-4 1} {1 1}] true", "[{-4 1} {1 1}] true"} {
		l, ok = c.Top(0, n)
		same(t, "Top", say(l, ok), want)
	}
}

func TestP15_3Copy(t *testing.T) {
	for seed := range int64(30) {
		r := rand.New(rand.NewSource(seed))
		l, its := shape(r)
		c, p := cell.New(l, its, small()), newPlain(l, its, small())
		for range r.Intn(300) {
			values, ids := anyRow(r, its, 30)
			c.Add(values, ids)
			p.add(values, ids)
		}
		d, q := c.Copy(), p.copied()
		holds(t, "copy", d, q)
		for range 50 {
			values, ids := anyRow(r, its, 30)
			same(t, "Add", d.Add(values, ids), api.OK)
			q.add(values, ids)
		}
		holds(t, "the first stays", c, p)
		holds(t, "the copy goes on", d, q)
		same(t, "Merge", c.Merge(d), api.OK)
		p.merge(q)
		holds(t, "both", c, p)
		holds(t, "the copy stays", d, q)
	}
}

// P15.4: any order of the rows and any tree of merges tell the same of all but quantiles and tops.
func TestP15_4Order(t *testing.T) {
	for seed := range int64(40) {
		r := rand.New(rand.NewSource(seed))
		var l []api.Measure
		var its []int
		for _, kind := range kinds {
			for _, m := range all(kind) {
				if m.Kind != api.MeasureQuantile && m.Kind != api.MeasureTop {
					l = append(l, m)
					its = append(its, kind)
				}
			}
		}
		l, its = l[:16], its[:16]
		var rows []row
		for range 1 + r.Intn(60) {
			values, ids := anyRow(r, its, 12)
			rows = append(rows, row{values, ids})
		}
		first := ""
		for range 5 {
			r.Shuffle(len(rows), func(i, j int) { rows[i], rows[j] = rows[j], rows[i] })
			cells := make([]*cell.Cell, 1+r.Intn(7))
			for i := range cells {
				cells[i] = cell.New(l, its, small())
			}
			for _, x := range rows {
				cells[r.Intn(len(cells))].Add(x.values, x.ids)
			}
			for len(cells) > 1 {
				at := r.Intn(len(cells) - 1)
				cells[at].Merge(cells[at+1])
				cells = slices.Delete(cells, at+1, at+2)
			}
			now := tells(cells[0], len(l))
			if first == "" {
				first = now
			}
			same(t, "in another order", now, first)
		}
	}
}

// P7.6 and P8.4, of values: quantiles and tops are off by no more than their sketches are.
func TestG2Bounds(t *testing.T) {
	for seed := range int64(8) {
		r := rand.New(rand.NewSource(seed))
		s := small()
		s.K, s.M = 1+r.Intn(64), 1+r.Intn(5)
		l := []api.Measure{measure(api.MeasureQuantile), measure(api.MeasureTop)}
		c := cell.New(l, []int{1, 1}, s)
		count := map[int]int{}
		var all []int
		for range 5 {
			part := cell.New(l, []int{1, 1}, s)
			for range 200 {
				n := int(r.Uint64()) >> r.Intn(64)
				id := int(r.ExpFloat64() * 3)
				part.Add([]api.Value{integer(n), integer(id)}, []int{0, id})
				all = append(all, n)
				count[id]++
			}
			c.Merge(part)
		}
		slices.Sort(all)
		off := 64 * (len(all) / s.K)
		for mille := 0; mille <= 1000; mille += 10 {
			v, _ := c.Quantile(0, mille)
			rank := digest.Target(len(all), mille)
			under, _ := slices.BinarySearch(all, v.N)
			upTo := 0
			for _, n := range all {
				if n <= v.N {
					upTo++
				}
			}
			if under >= rank+off || upTo < rank-off {
				t.Errorf("quantile %d of K %d: %d is rank %d to %d", mille, s.K, v.N, under, upTo)
			}
		}
		top, _ := c.Top(1, 9)
		for _, x := range top {
			if f := count[x.Id]; x.Count > f || f > x.Count+len(all)/(s.M+1) {
				t.Errorf("top %d: %d of %d", x.Id, x.Count, f)
			}
		}
	}
}

// text is a string whose bytes may be changed behind the call.
func text(b []byte) string { return unsafe.String(&b[0], len(b)) }

func TestR3Kept(t *testing.T) {
	name, its := []byte("col"), []byte("mid")
	l := make([]api.Measure, 2, 4)
	l[0], l[1] = api.Measure{Kind: api.MeasureMin, Column: text(name)}, api.Measure{Kind: api.MeasureMax, Column: "b"}
	copy(l[2:4], []api.Measure{measure(8), measure(9)})
	kinds := make([]int, 2, 4)
	kinds[0], kinds[1] = api.Str, api.Str
	seeds := make([]api.Seed, 1, 2)
	seeds[0] = api.Seed{A: 3}
	s := api.Settings{T: 4, Seeds: seeds, K: 1, M: 1}
	c := cell.New(l, kinds, s)
	twin := cell.New([]api.Measure{{Kind: api.MeasureMin, Column: "col"}, {Kind: api.MeasureMax, Column: "b"}}, []int{3, 3}, api.Settings{T: 4, Seeds: []api.Seed{{A: 3}}, K: 1, M: 1})
	copy(name, "xyz")
	same(t, "Merge", c.Merge(twin), api.OK)
	l[1], kinds[0], kinds[1], seeds[0] = measure(7), api.Bool, api.Bool, api.Seed{A: 5}
	same(t, "Merge, changed behind", c.Merge(twin), api.OK)
	copied := c.Copy()
	same(t, "Merge of a copy", copied.Merge(twin), api.OK)

	values, ids := make([]api.Value, 2, 4), make([]int, 2, 4)
	values[0], values[1] = str(text(its)), str(text(its))
	same(t, "Add", c.Add(values, ids), api.OK)
	same(t, "Merge", twin.Merge(c), api.OK)
	behind := c.Copy()
	values[0] = str("spoiled")
	copy(its, "zzz")
	for _, x := range []*cell.Cell{c, twin, behind} {
		least, _ := x.Least(0)
		greatest, _ := x.Greatest(1)
		same(t, "text changed behind", []api.Value{least, greatest}, []api.Value{str("mid"), str("mid")})
	}
}

// What a cell tells, and what it takes of another one, is memory of its own.
func TestR3Own(t *testing.T) {
	l := []api.Measure{measure(api.MeasureMin), measure(api.MeasureMax), measure(api.MeasureTop)}
	c := cell.New(l, alike(api.Str, 3), small())
	c.Add(alike(str("mid"), 3), alike(4, 3))
	o := cell.New(l, alike(api.Str, 3), small())
	o.Merge(c)
	copied := c.Copy()
	spoil := func(v api.Value, ok bool) { copy(unsafe.Slice(unsafe.StringData(v.S), len(v.S)), "zzz") }
	spoil(c.Least(0))
	spoil(c.Greatest(1))
	top, _ := c.Top(2, 5)
	for _, x := range []*cell.Cell{c, o, copied} {
		for i := range top[:cap(top)] {
			top[:cap(top)][i] = heavy.Counter{Id: 77, Count: 77}
		}
		least, _ := x.Least(0)
		greatest, _ := x.Greatest(1)
		its, _ := x.Top(2, 5)
		same(t, "spoiled", say(least, greatest, its), say(str("mid"), str("mid"), []heavy.Counter{{Id: 4, Count: 1}}))
	}
}

func TestR3NotChanged(t *testing.T) {
	l := make([]api.Measure, 3, 6)
	for i := range l {
		l[i] = measure(api.MeasureTop)
	}
	l[:4][3] = measure(9)
	kinds := alike(api.Int, 5)[:3]
	s := small()
	s.Seeds = append(s.Seeds, api.Seed{A: 9})[:3]
	was := say(l[:6], kinds[:5], s, s.Seeds[:4])
	c := cell.New(l, kinds, s)
	values, ids := alike(integer(4), 5)[:3], alike(8, 5)[:3]
	c.Add(values, ids)
	c.Merge(c.Copy())
	c.Top(0, 1)
	same(t, "arguments", say(l[:6], kinds[:5], s, s.Seeds[:4]), was)
	same(t, "rows", say(values[:5], ids[:5]), say(alike(integer(4), 5), alike(8, 5)))
}

func TestR5Unmade(t *testing.T) {
	made := cell.New(nil, nil, small())
	made.Add(nil, nil)
	for _, c := range []*cell.Cell{nil, {}} {
		same(t, "Add", c.Add(nil, nil), api.ErrMade)
		same(t, "Add", c.Add([]api.Value{{Kind: 9}}, []int{1, 2}), api.ErrMade)
		for _, o := range []*cell.Cell{nil, {}, c, made} {
			same(t, "Merge", c.Merge(o), api.ErrMade)
		}
		same(t, "Copy", c.Copy() == nil, true)
		same(t, "tells", tells(c, 0), tells(cell.New(nil, nil, small()), 0))
		same(t, "Rows", c.Rows(), 0)
	}
	same(t, "the other stays", made.Rows(), 1)
}
