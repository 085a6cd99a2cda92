package cube_test

import (
	"fmt"
	"math"
	"math/rand"
	"slices"
	"strings"
	"testing"
	"unsafe"

	"talus/api"
	"talus/cell"
	"talus/cube"
)

const (
	prime = 1<<61 - 1
	nan   = 0x7ff8000000000000
	inf   = 0x7ff0000000000000
	below = math.MinInt // the bit of the sign
)

func same(t *testing.T, what string, got, want any) {
	t.Helper()
	if a, b := fmt.Sprintf("%+v", got), fmt.Sprintf("%+v", want); a != b {
		t.Errorf("%s: %s, want %s", what, a, b)
	}
}

// say puts a blank between all, texts too.
func say(l ...any) string { return strings.TrimSuffix(fmt.Sprintln(l...), "\n") }

func integer(n int) api.Value { return api.Value{Kind: api.Int, N: n} }
func float(n int) api.Value   { return api.Value{Kind: api.Float, N: n} }
func str(s string) api.Value  { return api.Value{Kind: api.Str, S: s} }
func truth(n int) api.Value   { return api.Value{Kind: api.Bool, N: n} }

func bitsOf(x float64) int { return int(math.Float64bits(x)) }

func alike[T any](x T, n int) []T {
	l := make([]T, n)
	for i := range l {
		l[i] = x
	}
	return l
}

func small() api.Settings {
	return api.Settings{T: 4, Seeds: []api.Seed{{A: 3, B: 1}, {A: prime - 2, B: 7}, {A: 1 << 40, B: prime - 1}}, K: 1, M: 2}
}

// table has a column of each kind, and one more of ints.
func table() api.Table {
	return api.Table{Name: "t", Columns: []api.Column{{Name: "a", Kind: api.Int}, {Name: "b", Kind: api.Str}, {Name: "c", Kind: api.Float}, {Name: "d", Kind: api.Bool}, {Name: "e", Kind: api.Int}}}
}

func rollup(dims ...string) api.Rollup {
	return api.Rollup{Name: "r", Table: "t", Dims: dims, Measures: []api.Measure{
		{Kind: api.MeasureSum, Column: "e"}, {Kind: api.MeasureMin, Column: "b"}, {Kind: api.MeasureMax, Column: "c"}, {Kind: api.MeasureCount, Column: "d"},
		{Kind: api.MeasureDistinct, Column: "a"}, {Kind: api.MeasureQuantile, Column: "e"}, {Kind: api.MeasureQuantile, Column: "c"}, {Kind: api.MeasureTop, Column: "b"}, {Kind: api.MeasureTop, Column: "e"},
	}}
}

// values are some of a column of a kind, those among them that might be taken for others.
func values(kind int) []api.Value {
	switch kind {
	case api.Int:
		return []api.Value{integer(math.MinInt), integer(-10), integer(-1), integer(0), integer(1), integer(10), integer(11), integer(math.MaxInt)}
	case api.Float:
		return []api.Value{float(inf | below), float(bitsOf(-2)), float(bitsOf(-0.5)), float(0), float(1), float(bitsOf(0.5)), float(bitsOf(3)), float(inf), float(nan)}
	case api.Str:
		return []api.Value{str(""), str("NULL"), str("a"), str("'"), str("','"), str("',"), str(",'"), str(","), str("a,b"), str("b"), str("1"), str("\x00"), str("\xff"), str("é"), str(strings.Repeat("z", api.MaxText))}
	}
	return []api.Value{truth(0), truth(1)}
}

// A second, plain cube: it keeps the rows, and looks for alike ones from the start.

type row struct {
	values []api.Value
	ids    []int
}

type plain struct {
	rollup   api.Rollup
	table    api.Table
	settings api.Settings
	rows     []row
}

func (p *plain) add(values []api.Value, ids []int) {
	p.rows = append(p.rows, row{slices.Clone(values), slices.Clone(ids)})
}

func (p *plain) place(name string) int {
	return slices.IndexFunc(p.table.Columns, func(c api.Column) bool { return c.Name == name })
}

func (p *plain) empty() *cell.Cell {
	var kinds []int
	for _, m := range p.rollup.Measures {
		kinds = append(kinds, p.table.Columns[p.place(m.Column)].Kind)
	}
	return cell.New(p.rollup.Measures, kinds, p.settings)
}

func (p *plain) measured(r row) ([]api.Value, []int) {
	var l []api.Value
	var ids []int
	for _, m := range p.rollup.Measures {
		l = append(l, r.values[p.place(m.Column)])
		ids = append(ids, r.ids[p.place(m.Column)])
	}
	return l, ids
}

// key has the values of a row in the columns of these names.
func (p *plain) key(r row, names []string) []api.Value {
	var key []api.Value
	for _, name := range names {
		key = append(key, r.values[p.place(name)])
	}
	return key
}

func at(l []cube.Entry, key []api.Value) int {
	return slices.IndexFunc(l, func(e cube.Entry) bool { return slices.Equal(e.Key, key) })
}

// less says it without the layers below.
func less(a, b api.Value) bool {
	x, y := math.Float64frombits(uint64(a.N)), math.Float64frombits(uint64(b.N))
	switch {
	case a.Kind != b.Kind:
		return a.Kind < b.Kind
	case a.Kind == api.Null:
		return false
	case a.Kind == api.Str:
		return a.S < b.S
	case a.Kind == api.Float:
		return x < y || x == x && y != y
	}
	return a.N < b.N
}

func cmpKeys(a, b []api.Value) int {
	for i := range min(len(a), len(b)) {
		switch {
		case less(a[i], b[i]):
			return -1
		case less(b[i], a[i]):
			return 1
		}
	}
	switch {
	case len(a) < len(b):
		return -1
	case len(a) > len(b):
		return 1
	}
	return 0
}

func sorted(l []cube.Entry) []cube.Entry {
	slices.SortFunc(l, func(a, b cube.Entry) int { return cmpKeys(a.Key, b.Key) })
	return l
}

func (p *plain) entries() []cube.Entry {
	var l []cube.Entry
	for _, r := range p.rows {
		key := p.key(r, p.rollup.Dims)
		i := at(l, key)
		if i < 0 {
			i = len(l)
			l = append(l, cube.Entry{Key: key, Cell: p.empty()})
		}
		l[i].Cell.Add(p.measured(r))
	}
	return sorted(l)
}

func (p *plain) roll(dims []string) []cube.Entry {
	var l []cube.Entry
	for _, e := range p.entries() {
		var key []api.Value
		for _, name := range dims {
			key = append(key, e.Key[slices.Index(p.rollup.Dims, name)])
		}
		if i := at(l, key); i >= 0 {
			l[i].Cell.Merge(e.Cell)
		} else {
			l = append(l, cube.Entry{Key: key, Cell: e.Cell.Copy()})
		}
	}
	return sorted(l)
}

func told(c *cell.Cell, i int) string {
	var b strings.Builder
	line := func(what string, x any, ok bool) {
		if ok {
			fmt.Fprintf(&b, " %d %s %+v", i, what, x)
		}
	}
	n, ok := c.Count(i)
	line("count", n, ok)
	w, n, ok := c.Sum(i)
	line("sum", say(w, n), ok)
	v, ok := c.Least(i)
	line("least", v, ok)
	v, ok = c.Greatest(i)
	line("greatest", v, ok)
	n, ok = c.Distinct(i)
	line("distinct", n, ok)
	for mille := 0; mille <= 1000; mille += 50 {
		v, ok = c.Quantile(i, mille)
		line("quantile", v, ok)
	}
	l, ok := c.Top(i, api.MaxSketch)
	line("top", l, ok)
	return b.String()
}

// said is all that entries tell, a line each.
func said(l []cube.Entry) string {
	var b strings.Builder
	for _, e := range l {
		fmt.Fprintf(&b, "%+q: %d rows", fmt.Sprintf("%+v", e.Key), e.Cell.Rows())
		for i := range 17 {
			b.WriteString(told(e.Cell, i))
		}
		b.WriteByte('\n')
	}
	return b.String()
}

func sameEntries(t *testing.T, what string, got, want []cube.Entry) {
	t.Helper()
	a, b := strings.Split(said(got), "\n"), strings.Split(said(want), "\n")
	for i := range b {
		if i >= len(a) || a[i] != b[i] {
			t.Fatalf("%s: %d entries, want %d; %d: %s, want %s", what, len(got), len(want), i, a[min(i, len(a)-1)], b[i])
		}
	}
	if len(a) != len(b) {
		t.Fatalf("%s: %d entries, want %d", what, len(got), len(want))
	}
}

func rolled(t *testing.T, c *cube.Cube, dims []string) []cube.Entry {
	t.Helper()
	l, e := c.Roll(dims)
	same(t, say("Roll", dims), e, api.OK)
	return l
}

// both are a cube and a plain one of the same, without rows.
func both(r api.Rollup) (*cube.Cube, *plain) {
	return cube.New(r, table(), small()), &plain{rollup: r, table: table(), settings: small()}
}

func anyRow(r *rand.Rand, unlike int) ([]api.Value, []int) {
	var l []api.Value
	var ids []int
	for _, column := range table().Columns {
		its := values(column.Kind)
		id := r.Intn(min(unlike, len(its)))
		v := its[id]
		if r.Intn(5) == 0 {
			v, id = api.Value{}, int(r.Uint64()) // which is not looked at
		}
		l, ids = append(l, v), append(ids, id)
	}
	return l, ids
}

// choices are all rows of names that are not twice in one.
func choices(names []string) [][]string {
	l := [][]string{nil}
	for from := 0; from < len(l); from++ {
		for _, name := range names {
			if !slices.Contains(l[from], name) {
				l = append(l, append(slices.Clone(l[from]), name))
			}
		}
	}
	return l
}

func TestP16_1New(t *testing.T) {
	for _, dims := range choices([]string{"a", "b", "d"}) {
		c := cube.New(rollup(dims...), table(), small())
		if c == nil {
			t.Fatal("no cube by", dims)
		}
		same(t, "Rollup", c.Rollup(), rollup(dims...))
		same(t, "Entries", len(c.Entries()), 0)
		same(t, "Roll", len(rolled(t, c, dims)), 0)
		same(t, "Roll of no dims", len(rolled(t, c, nil)), 0)
	}
	c := cube.New(api.Rollup{Name: "r", Table: "t"}, table(), small())
	same(t, "without dims and measures", c.Rollup(), api.Rollup{Name: "r", Table: "t"})
}

func TestP16_1NewRollups(t *testing.T) {
	for i, way := range []func(r *api.Rollup){
		func(r *api.Rollup) { r.Name = "" }, func(r *api.Rollup) { r.Name = "select" }, func(r *api.Rollup) { r.Name = "R" },
		func(r *api.Rollup) { r.Table = "u" }, func(r *api.Rollup) { r.Table = "" },
		func(r *api.Rollup) { r.Dims = alike("a", 9) }, func(r *api.Rollup) { r.Measures = alike(r.Measures[0], 17) },
		func(r *api.Rollup) { r.Measures[1].Kind = 0 }, func(r *api.Rollup) { r.Measures[1].Kind = 8 }, func(r *api.Rollup) { r.Measures[1].Kind = math.MinInt },
		func(r *api.Rollup) { r.Dims[1] = "x" }, func(r *api.Rollup) { r.Dims[0] = "" }, func(r *api.Rollup) { r.Measures[2].Column = "x" },
		func(r *api.Rollup) { r.Dims[1] = "a" }, func(r *api.Rollup) { r.Measures[1] = r.Measures[0] },
		func(r *api.Rollup) { r.Measures[0].Column = "b" }, func(r *api.Rollup) { r.Measures[0].Column = "c" }, func(r *api.Rollup) { r.Measures[5].Column = "d" }, func(r *api.Rollup) { r.Measures[5].Column = "b" },
	} {
		r := rollup("a", "b")
		same(t, "New", cube.New(r, table(), small()) != nil, true)
		way(&r)
		same(t, say("New of rollup", i), cube.New(r, table(), small()) == nil, true)
	}
	same(t, "New of nothing", cube.New(api.Rollup{}, api.Table{}, api.Settings{}) == nil, true)
}

func TestP16_1NewTables(t *testing.T) {
	for i, way := range []func(x *api.Table){
		func(x *api.Table) { x.Name = "" }, func(x *api.Table) { x.Name = "T" }, func(x *api.Table) { x.Name = "limit" }, // the rollup's, too
		func(x *api.Table) { x.Columns[4].Name = "" }, func(x *api.Table) { x.Columns[3].Name = "nan" },
		func(x *api.Table) { x.Columns[4].Kind = 0 }, func(x *api.Table) { x.Columns[4].Kind = 5 }, func(x *api.Table) { x.Columns[4].Kind = -1 },
		func(x *api.Table) { x.Columns = nil }, func(x *api.Table) { x.Columns = append(x.Columns, alike(x.Columns[0], 4)...) },
		func(x *api.Table) {
			for i := range 4 {
				x.Columns = append(x.Columns, api.Column{Name: fmt.Sprint("more", i), Kind: 1})
			}
		},
		func(x *api.Table) { x.Columns[4].Name = "d" },
	} {
		x := table()
		way(&x)
		r := api.Rollup{Name: "r", Table: x.Name} // which fits any table
		same(t, say("New of table", i), cube.New(r, x, small()) == nil, true)
	}
}

func TestP16_1NewSettings(t *testing.T) {
	for i, way := range []func(s *api.Settings){
		func(s *api.Settings) { s.T = 1 }, func(s *api.Settings) { s.T = 65 }, func(s *api.Settings) { s.T = math.MinInt },
		func(s *api.Settings) { s.Seeds = nil }, func(s *api.Settings) { s.Seeds = s.Seeds[:2] }, func(s *api.Settings) { s.Seeds = alike(s.Seeds[0], 9) },
		func(s *api.Settings) { s.Seeds[1].A = 0 }, func(s *api.Settings) { s.Seeds[0].A = prime }, func(s *api.Settings) { s.Seeds[2].B = prime },
		func(s *api.Settings) { s.K = 0 }, func(s *api.Settings) { s.K = 65 }, func(s *api.Settings) { s.M = 0 }, func(s *api.Settings) { s.M = 65 },
	} {
		s := small()
		way(&s)
		same(t, say("New, settings", i), cube.New(rollup("a"), table(), s) == nil, true)
		same(t, say("New without measures, settings", i), cube.New(api.Rollup{Name: "r", Table: "t", Dims: []string{"a"}}, table(), s) == nil, true)
	}
	for _, n := range []int{1, 7} {
		s := api.Settings{T: 2, Seeds: alike(api.Seed{A: 1}, n), K: 1, M: 1}
		same(t, "New, least settings", cube.New(rollup("a"), table(), s) != nil, true)
		s.T, s.K, s.M = 64, 64, 64
		same(t, "New, greatest settings", cube.New(rollup("a"), table(), s) != nil, true)
	}
}

// As many columns, dims and measures as there may be.
func TestP16_1NewMost(t *testing.T) {
	x := api.Table{Name: "t"}
	r := api.Rollup{Name: "r", Table: "t"}
	for i := range 8 {
		name := fmt.Sprint("c", i)
		x.Columns = append(x.Columns, api.Column{Name: name, Kind: 1})
		r.Dims = append([]string{name}, r.Dims...)
		r.Measures = append(r.Measures, api.Measure{Kind: api.MeasureSum, Column: name}, api.Measure{Kind: api.MeasureTop, Column: name})
	}
	c := cube.New(r, x, small())
	p := &plain{rollup: r, table: x, settings: small()}
	for n := range 300 {
		var row []api.Value
		var ids []int
		for i := range 8 {
			row, ids = append(row, integer(n>>i&1*(i+1))), append(ids, n>>i&1)
		}
		same(t, "Add", c.Add(row, ids), api.OK)
		p.add(row, ids)
	}
	sameEntries(t, "most", c.Entries(), p.entries())
	sameEntries(t, "most, rolled", rolled(t, c, r.Dims[3:6]), p.roll(r.Dims[3:6]))
	same(t, "Rollup", c.Rollup(), r)
}

func TestP16_1Add(t *testing.T) {
	for i, dims := range choices([]string{"a", "b", "c", "d"}) {
		r := rand.New(rand.NewSource(int64(i)))
		c, p := both(rollup(dims...))
		unlike := []int{1, 2, 3, 20}[i%4]
		for n := range r.Intn(60) {
			values, ids := anyRow(r, unlike)
			same(t, "Add", c.Add(values, ids), api.OK)
			p.add(values, ids)
			if n%20 == 0 {
				sameEntries(t, say("between", dims), c.Entries(), p.entries())
			}
		}
		sameEntries(t, say("by", dims), c.Entries(), p.entries())
		same(t, "Rollup", c.Rollup(), rollup(dims...))
	}
}

// Each value of a column is another combination, and a Null is one, too.
func TestP16_1AddUnlike(t *testing.T) {
	for at, column := range table().Columns {
		c, p := both(rollup(column.Name))
		its := append(values(column.Kind), api.Value{})
		for times := range 2 {
			for id, v := range its {
				row := make([]api.Value, 5)
				row[at] = v
				same(t, "Add", c.Add(row, alike(id, 5)), api.OK)
				p.add(row, alike(id, 5))
			}
			l := c.Entries()
			sameEntries(t, column.Name, l, p.entries())
			same(t, "entries", len(l), len(its))
			for _, e := range l {
				same(t, say("rows of", e.Key), e.Cell.Rows(), times+1)
			}
		}
	}
}

// Keys of texts that together read alike are others nevertheless.
func TestP16_1AddPairs(t *testing.T) {
	x := api.Table{Name: "t"}
	for _, name := range []string{"a", "b", "c"} {
		x.Columns = append(x.Columns, api.Column{Name: name, Kind: api.Str})
	}
	r := api.Rollup{Name: "r", Table: "t", Dims: []string{"b", "c", "a"}}
	c := cube.New(r, x, small())
	p := &plain{rollup: r, table: x, settings: small()}
	its := []api.Value{{}, str(""), str("'"), str("''"), str(","), str("','"), str("',''"), str("NULL"), str(",NULL,"), str("a"), str("a' 'b"), str("b"), str("a b"), str("ab"), str("a\x00b"), str("\x00")}
	for _, v := range its {
		for _, w := range its {
			for _, z := range its {
				row := []api.Value{v, w, z}
				same(t, "Add", c.Add(row, make([]int, 3)), api.OK)
				p.rows = append(p.rows, row2(row))
			}
		}
	}
	l := c.Entries()
	same(t, "entries", len(l), len(its)*len(its)*len(its))
	for i, e := range l {
		same(t, "rows", e.Cell.Rows(), 1)
		if i > 0 && cmpKeys(l[i-1].Key, e.Key) >= 0 {
			t.Errorf("%v ahead of %v", l[i-1].Key, e.Key)
		}
	}
	two := rolled(t, c, []string{"a", "c"})
	same(t, "rolled", len(two), len(its)*len(its))
	for _, e := range two {
		same(t, "rows", e.Cell.Rows(), len(its))
	}
	sameEntries(t, "rolled", rolled(t, c, []string{"b"}), p.roll([]string{"b"}))
}

func row2(l []api.Value) row { return row{l, make([]int, len(l))} }

// misfits are values that no column of a kind has.
func misfits(kind int) []api.Value {
	l := []api.Value{{N: 1}, {S: "x"}, {Kind: 5}, {Kind: -1}, {Kind: math.MaxInt}, {Kind: math.MinInt},
		{Kind: api.Int, S: "x"}, {Kind: api.Float, S: "x"}, float(nan + 1), float(nan | below), float(below), float(inf + 1),
		{Kind: api.Str, N: 1}, str(strings.Repeat("z", api.MaxText+1)), truth(2), truth(-1), {Kind: api.Bool, S: "x"}}
	for other := api.Int; other <= api.Bool; other++ {
		if other != kind {
			l = append(l, values(other)...)
		}
	}
	return l
}

func TestP16_1AddErrors(t *testing.T) {
	r := rollup("a", "d") // b and c are measured
	r.Measures = r.Measures[1:3]
	c, p := both(r) // nobody asks for e
	good := []api.Value{integer(1), str("x"), float(0), truth(1), integer(5)}
	same(t, "Add", c.Add(good, make([]int, 5)), api.OK)
	p.add(good, make([]int, 5))
	for at, column := range table().Columns {
		for _, bad := range misfits(column.Kind) {
			row := slices.Clone(good)
			row[at] = bad
			for _, first := range []api.Value{good[0], integer(77), {}} { // of a combination that there is, and of one that there is not
				if at > 0 {
					row[0] = first
				}
				same(t, say("Add", bad, "as", column), c.Add(row, make([]int, 5)), api.ErrType)
				same(t, "Add of too few ids", c.Add(row, make([]int, 4)), api.ErrArg)
				same(t, "Add of too many values", c.Add(append(row, good[0]), make([]int, 5)), api.ErrArg)
				same(t, "Add of too few values", c.Add(row[:4], make([]int, 5)), api.ErrArg)
			}
		}
	}
	for values := range 8 {
		for ids := range 8 {
			if values != 5 || ids != 5 {
				same(t, say("Add", values, ids), c.Add(make([]api.Value, values), make([]int, ids)), api.ErrArg)
			}
		}
	}
	same(t, "Add of nothing", c.Add(nil, nil), api.ErrArg)
	sameEntries(t, "behind errors", c.Entries(), p.entries())
	same(t, "Rollup", c.Rollup(), r)
}

// The ids of Nulls, and of columns without a measure, may be any; those of others may be, too.
func TestP16_1AddIds(t *testing.T) {
	r := api.Rollup{Name: "r", Table: "t", Dims: []string{"a"}, Measures: []api.Measure{{Kind: api.MeasureDistinct, Column: "b"}, {Kind: api.MeasureTop, Column: "e"}}}
	c, p := both(r)
	for _, id := range []int{0, -1, math.MinInt, math.MaxInt, 5, 5} {
		for at := range 5 {
			row := []api.Value{integer(1), str("x"), {}, {}, integer(2)}
			ids := alike(3, 5)
			ids[at] = id
			for _, null := range []int{0, 1, 4} {
				row[null] = api.Value{}
				same(t, "Add", c.Add(row, ids), api.OK)
				p.add(row, ids)
			}
		}
	}
	sameEntries(t, "ids", c.Entries(), p.entries())
	c, _ = both(r)
	for id := range 4 {
		c.Add(make([]api.Value, 5), alike(id, 5))
	}
	n, _ := c.Entries()[0].Cell.Distinct(0)
	top, _ := c.Entries()[0].Cell.Top(1, 9)
	same(t, "of Nulls", say(n, len(top), c.Entries()[0].Cell.Rows()), "0 0 4")
}

func TestP16_1Rollup(t *testing.T) {
	r := rollup("d", "a")
	c := cube.New(r, table(), small())
	c.Add(make([]api.Value, 5), make([]int, 5))
	c.Roll([]string{"a"})
	same(t, "Rollup", c.Rollup(), r)
	same(t, "Rollup, again", c.Rollup(), r)
	same(t, "of the copy", c.Copy().Rollup(), r)
}

func TestP16_2CmpKeys(t *testing.T) {
	its := []api.Value{{}, {N: 5}, {S: "x"}, {Kind: 9, N: 1}, {Kind: 9, N: 2, S: "x"}, {Kind: -1}, {Kind: math.MinInt, N: 3}, {Kind: math.MaxInt}, {Kind: api.Int, N: 4, S: "y"}, truth(7), truth(-1)}
	for kind := api.Int; kind <= api.Bool; kind++ {
		its = append(its, values(kind)...)
	}
	its = append(its, str(strings.Repeat("z", 200)), integer(math.MinInt+1))
	for _, v := range its {
		for _, w := range its {
			want := cmpKeys([]api.Value{v}, []api.Value{w})
			same(t, say("CmpKeys", v, w), cube.CmpKeys([]api.Value{v}, []api.Value{w}), want)
			for _, x := range []api.Value{{}, integer(1), str("b")} {
				same(t, "CmpKeys, alike ahead", cube.CmpKeys([]api.Value{x, x, v}, []api.Value{x, x, w}), want)
				same(t, "CmpKeys, a longer one", cube.CmpKeys([]api.Value{x, v, x}, []api.Value{x, w}), cmpKeys([]api.Value{v, x}, []api.Value{w}))
				same(t, "CmpKeys, a shorter one", cube.CmpKeys([]api.Value{v}, []api.Value{w, x, x}), cmpKeys([]api.Value{v}, []api.Value{w, x}))
				for _, y := range []api.Value{{}, integer(1), str("a")} {
					a, b := []api.Value{v, x}, []api.Value{w, y}
					same(t, say("CmpKeys", a, b), cube.CmpKeys(a, b), cmpKeys(a, b))
				}
			}
		}
	}
}

func TestP16_2CmpKeysLengths(t *testing.T) {
	for n := range 12 {
		for m := range 12 {
			for _, v := range []api.Value{{}, str("x"), float(nan)} {
				want := 0
				if n < m {
					want = -1
				} else if n > m {
					want = 1
				}
				same(t, say("CmpKeys", n, m), cube.CmpKeys(alike(v, n), alike(v, m)), want)
			}
		}
	}
	same(t, "CmpKeys of nil and of nothing", cube.CmpKeys(nil, []api.Value{}), 0)
	same(t, "CmpKeys of nothing and a Null", cube.CmpKeys(nil, make([]api.Value, 1)), -1)
	same(t, "CmpKeys of floats that are alike", cube.CmpKeys([]api.Value{float(below), float(nan + 1)}, []api.Value{float(0), float(nan | below)}), 0)
}

// Many entries stand by keys each time, whatever the order in which their rows came.
func TestP16_2Entries(t *testing.T) {
	r := rand.New(rand.NewSource(1))
	c, p := both(rollup("c", "b"))
	var rows []row
	for range 2 {
		for i, v := range append(values(api.Float), api.Value{}) {
			for j, w := range append(values(api.Str), api.Value{}) {
				rows = append(rows, row{[]api.Value{{}, w, v, {}, integer(i * j)}, []int{0, j, i, 0, i * j}})
			}
		}
	}
	r.Shuffle(len(rows), func(i, j int) { rows[i], rows[j] = rows[j], rows[i] })
	for _, x := range rows {
		same(t, "Add", c.Add(x.values, x.ids), api.OK)
		p.add(x.values, x.ids)
	}
	want := p.entries()
	for range 5 {
		sameEntries(t, "many", c.Entries(), want)
		sameEntries(t, "many, rolled", rolled(t, c, []string{"b"}), p.roll([]string{"b"}))
	}
}

func TestP16_2Roll(t *testing.T) {
	dims := []string{"d", "a", "c", "b"}
	for seed := range int64(4) {
		r := rand.New(rand.NewSource(seed))
		c, p := both(rollup(dims...))
		unlike := 1 + r.Intn(4)
		for range 150 {
			values, ids := anyRow(r, unlike)
			c.Add(values, ids)
			p.add(values, ids)
		}
		want := p.entries()
		for _, l := range choices(dims) {
			sameEntries(t, say("Roll", l), rolled(t, c, l), p.roll(l))
		}
		sameEntries(t, "Roll of all", rolled(t, c, dims), want)
		for _, l := range [][]string{{"a", "a"}, {"b", "d", "b"}, {"c", "c", "c", "a", "d", "b", "a", "a", "b"}} { // no error is named
			sameEntries(t, say("Roll", l), rolled(t, c, l), p.roll(l))
		}
		sameEntries(t, "the cube stays", c.Entries(), want)
		values, ids := anyRow(r, 20)
		c.Add(values, ids)
		p.add(values, ids)
		sameEntries(t, "and goes on", c.Entries(), p.entries())
	}
}

// Cells are merged in the order of Entries: digests and heavy sketches that lost something tell others of another order.
func TestP16_2RollOrder(t *testing.T) {
	other := false
	for seed := range int64(20) {
		r := rand.New(rand.NewSource(seed))
		c, p := both(rollup("a", "d"))
		for range 400 {
			row := []api.Value{integer(r.Intn(40)), {}, {}, truth(r.Intn(2)), integer(int(r.Uint64()) >> r.Intn(64))}
			ids := []int{0, 0, 0, 0, r.Intn(7)}
			c.Add(row, ids)
			p.add(row, ids)
		}
		sameEntries(t, say("seed", seed), rolled(t, c, []string{"d"}), p.roll([]string{"d"}))
		sameEntries(t, say("seed", seed), rolled(t, c, nil), p.roll(nil))
		l := p.entries()
		slices.Reverse(l)
		for i := range l[1:] {
			l[0].Cell.Merge(l[i+1].Cell)
		}
		other = other || told(l[0].Cell, 8) != told(p.roll(nil)[0].Cell, 8)
	}
	same(t, "some orders tell others", other, true)
}

func TestP16_2RollErrors(t *testing.T) {
	c, p := both(rollup("a", "b"))
	for times := range 2 { // without rows, and with one
		for _, bad := range []string{"", "A", "c", "e", "x", "r", "t", "a ", "aa", "ab", "a,b", "\x00"} {
			for _, l := range [][]string{{bad}, {"a", bad}, {bad, "b"}, {"a", "b", bad}, {bad, bad}} {
				its, e := c.Roll(l)
				same(t, say("Roll", l), say(len(its), int(e)), say(0, int(api.ErrColumn)))
			}
		}
		same(t, "Roll", len(rolled(t, c, []string{"b", "a"})), times)
		row := []api.Value{integer(1), str("c"), {}, {}, {}}
		c.Add(row, make([]int, 5))
		p.add(row, make([]int, 5))
	}
	p.rows = p.rows[:2]
	sameEntries(t, "behind errors", c.Entries(), p.entries())
	none, _ := both(rollup())
	_, e := none.Roll([]string{"a"})
	same(t, "Roll without dims", e, api.ErrColumn)
}

func TestP16_2Copy(t *testing.T) {
	for seed := range int64(20) {
		r := rand.New(rand.NewSource(seed))
		c, p := both(rollup("b", "a"))
		grow := func(c *cube.Cube, p *plain) {
			for range r.Intn(40) {
				values, ids := anyRow(r, 4)
				same(t, "Add", c.Add(values, ids), api.OK)
				p.add(values, ids)
			}
		}
		grow(c, p)
		d, q := c.Copy(), &plain{p.rollup, p.table, p.settings, slices.Clone(p.rows)}
		sameEntries(t, "copy", d.Entries(), q.entries())
		grow(d, q)
		sameEntries(t, "the first stays", c.Entries(), p.entries())
		grow(c, p)
		sameEntries(t, "the copy stays", d.Entries(), q.entries())
		sameEntries(t, "the first goes on", rolled(t, c, []string{"a"}), p.roll([]string{"a"}))
		sameEntries(t, "the copy rolls", rolled(t, d, []string{"a", "b"}), q.roll([]string{"a", "b"}))
		same(t, "errors of the copy", say(int(d.Add(nil, nil)), int(d.Add(alike(integer(1), 5), make([]int, 5)))), say(int(api.ErrArg), int(api.ErrType)))
		same(t, "Rollup", d.Rollup(), p.rollup)
	}
}

// The example of the chapter.
func TestP16_2Example(t *testing.T) {
	c := cube.New(api.Rollup{Name: "r", Table: "t", Dims: []string{"a", "b"}}, table(), small())
	for _, s := range []string{"x", "y", "x"} {
		same(t, "Add", c.Add([]api.Value{integer(1), str(s), {}, {}, {}}, make([]int, 5)), api.OK)
	}
	same(t, "Entries", said(c.Entries()), "\"[{Kind:1 N:1 S:} {Kind:3 N:0 S:x}]\": 2 rows\n\"[{Kind:1 N:1 S:} {Kind:3 N:0 S:y}]\": 1 rows\n")
	same(t, "Roll", said(rolled(t, c, []string{"a"})), "\"[{Kind:1 N:1 S:}]\": 3 rows\n")
	same(t, "Roll of none", said(rolled(t, c, nil)), "\"[]\": 3 rows\n")
}

// P16.3, counted from the rows alone.
func TestP16_3(t *testing.T) {
	dims := []string{"a", "b", "c", "d"}
	for seed := range int64(30) {
		r := rand.New(rand.NewSource(seed))
		c, p := both(rollup(dims[:r.Intn(5)]...))
		for range r.Intn(200) {
			values, ids := anyRow(r, 3)
			c.Add(values, ids)
			p.add(values, ids)
			if r.Intn(10) == 0 {
				same(t, "Add of a row that is none", c.Add(values[:4], ids), api.ErrArg)
			}
		}
		for _, l := range choices(p.rollup.Dims) {
			count, sum := map[string]int{}, map[string]int{}
			for _, x := range p.rows {
				key := fmt.Sprintf("%+q", fmt.Sprintf("%+v", p.key(x, l)))
				count[key]++
				if x.values[3].Kind != api.Null {
					sum[key]++
				}
			}
			its := rolled(t, c, l)
			if slices.Equal(l, p.rollup.Dims) {
				its = append(its, c.Entries()...)
			}
			rows := 0
			for i, e := range its {
				key := fmt.Sprintf("%+q", fmt.Sprintf("%+v", e.Key))
				n, ok := e.Cell.Count(3)
				same(t, say("of", key), say(e.Cell.Rows(), n, ok), say(count[key], sum[key], true))
				if i < len(count) {
					rows += e.Cell.Rows()
				}
			}
			same(t, "entries", len(its)%max(len(count), 1), 0)
			same(t, "rows of all", rows, len(p.rows))
		}
	}
}

// text is a string whose bytes may be changed behind the call.
func text(b []byte) string { return unsafe.String(&b[0], len(b)) }

func spoil(s string) {
	copy(unsafe.Slice(unsafe.StringData(s), len(s)), strings.Repeat("\xfe", len(s)))
}

func TestR3Kept(t *testing.T) {
	names := []*[]byte{}
	fresh := func(s string) string {
		b := []byte(s)
		names = append(names, &b)
		return text(b)
	}
	r := api.Rollup{Name: fresh("r"), Table: fresh("t"), Dims: append(make([]string, 0, 4), fresh("b"), fresh("d")), Measures: append(make([]api.Measure, 0, 3), api.Measure{Kind: api.MeasureMin, Column: fresh("b")})}
	x := api.Table{Name: fresh("t"), Columns: append(make([]api.Column, 0, 9), api.Column{Name: fresh("b"), Kind: api.Str}, api.Column{Name: fresh("d"), Kind: api.Bool})}
	s := small()
	c := cube.New(r, x, s)
	for _, b := range names {
		copy(*b, "zz")
	}
	r.Dims[0], r.Dims[1], r.Measures[0] = "d", "d", api.Measure{Kind: 9}
	x.Columns[0].Kind, x.Columns[1] = api.Int, api.Column{}
	for i := range s.Seeds {
		s.Seeds[i] = api.Seed{}
	}
	want := api.Rollup{Name: "r", Table: "t", Dims: []string{"b", "d"}, Measures: []api.Measure{{Kind: api.MeasureMin, Column: "b"}}}
	same(t, "Rollup, changed behind", c.Rollup(), want)

	its := []byte("mid")
	row, ids := append(make([]api.Value, 0, 4), str(text(its)), truth(1)), make([]int, 2, 4)
	same(t, "Add", c.Add(row, ids), api.OK)
	copied := c.Copy()
	copy(its, "zzz")
	row[0], row[1] = str("q"), truth(0)
	for _, o := range []*cube.Cube{c, copied} {
		entries := o.Entries()
		least, _ := entries[0].Cell.Least(0)
		same(t, "changed behind", say(len(entries), entries[0].Key, least), say(1, []api.Value{str("mid"), truth(1)}, str("mid")))
		same(t, "Add of the same", o.Add([]api.Value{str("mid"), truth(1)}, ids), api.OK)
		same(t, "Roll", said(rolled(t, o, []string{"d"})), "\"[{Kind:4 N:1 S:}]\": 2 rows 0 least {Kind:3 N:0 S:mid}\n")
		_, e := o.Roll([]string{"zz"})
		same(t, "Roll", e, api.ErrColumn)
	}
}

// What a cube tells is memory of its own, in each part.
func TestR3Own(t *testing.T) {
	c, p := both(rollup("b", "a"))
	row := func() []api.Value {
		return []api.Value{integer(1), str(strings.Clone("mid")), float(0), truth(1), integer(5)}
	}
	for range 2 {
		c.Add(row(), make([]int, 5))
		p.add(row(), make([]int, 5))
	}
	other := row()
	other[1] = str(strings.Clone("top"))
	c.Add(other, make([]int, 5))
	p.add(other, make([]int, 5))
	wreck := func(l []cube.Entry) {
		for _, e := range l[:cap(l)] {
			for i, v := range e.Key {
				spoil(v.S)
				e.Key[i] = integer(99)
			}
			for i := range e.Key[:cap(e.Key)] {
				e.Key[:cap(e.Key)][i] = integer(98)
			}
			if e.Cell != nil {
				e.Cell.Merge(e.Cell)
			}
		}
		for i := range l[:cap(l)] {
			l[:cap(l)][i] = cube.Entry{}
		}
	}
	copied := c.Copy()
	wreck(c.Entries())
	wreck(copied.Entries())
	for _, l := range [][]string{{"b"}, {"b", "a"}, nil, {"a", "b", "b"}} {
		wreck(rolled(t, c, l))
		wreck(rolled(t, copied, l))
	}
	for range 2 {
		its := c.Rollup()
		spoil(its.Measures[0].Column)
		its.Dims[0], its.Dims[1], its.Measures[0] = "x", "y", api.Measure{}
		copied.Rollup().Dims[0] = "z"
	}
	for _, o := range []*cube.Cube{c, copied} {
		sameEntries(t, "spoiled", o.Entries(), p.entries())
		sameEntries(t, "spoiled, rolled", rolled(t, o, []string{"b"}), p.roll([]string{"b"}))
		same(t, "Rollup", o.Rollup(), rollup("b", "a"))
	}
}

// No two texts of one answer share their bytes, either.
func TestR3OwnEach(t *testing.T) {
	c, _ := both(rollup("b", "a"))
	for n := range 2 {
		c.Add([]api.Value{integer(n), str("mid"), {}, {}, {}}, make([]int, 5))
	}
	for _, l := range [][]cube.Entry{c.Entries(), rolled(t, c, []string{"b", "a"}), rolled(t, c, []string{"b", "b", "a", "b"})} {
		spoil(l[0].Key[0].S)
		for i, e := range l {
			for j, v := range e.Key {
				if v.Kind == api.Str && (i > 0 || j > 0) {
					same(t, say("text", i, j), v.S, "mid")
				}
			}
		}
	}
}

func TestR3NotChanged(t *testing.T) {
	r, x, s := rollup("a", "b", "zz", "zz"), table(), small()
	dims := r.Dims
	r.Dims = dims[:2]
	s.Seeds = append(s.Seeds, api.Seed{A: 9})[:3]
	columns, measures := append(x.Columns, api.Column{Name: "x"}), append(r.Measures, api.Measure{Kind: 9})
	x.Columns, r.Measures = columns[:5], measures[:9]
	was := say(dims, columns, measures, s, s.Seeds[:4])
	c := cube.New(r, x, s)
	row := append([]api.Value{integer(1), str("x"), {}, truth(0), integer(5)}, integer(7))
	ids := []int{1, 2, 3, 4, 5, 6}
	asked := []string{"b", "a", "zz"}
	rows := say(row, ids, asked)
	for range 2 {
		same(t, "Add", c.Add(row[:5], ids[:5]), api.OK)
		rolled(t, c, asked[:2])
		c.Roll(asked)
		c.Copy().Entries()
	}
	cube.CmpKeys(row[:2], row[1:3])
	same(t, "arguments", say(dims, columns, measures, s, s.Seeds[:4]), was)
	same(t, "rows", say(row, ids, asked), rows)
}

func TestR4(t *testing.T) {
	first := ""
	for range 20 {
		r := rand.New(rand.NewSource(5))
		c, _ := both(rollup("a", "b", "c"))
		for range 120 {
			c.Add(anyRow(r, 5))
		}
		now := said(c.Entries()) + said(rolled(t, c, []string{"c"})) + said(rolled(t, c, nil)) + said(c.Copy().Entries())
		if first == "" {
			first = now
		}
		if now != first {
			t.Fatal("another answer of the same")
		}
	}
}

func TestR5Unmade(t *testing.T) {
	for _, c := range []*cube.Cube{nil, {}} {
		same(t, "Add", c.Add(nil, nil), api.ErrMade)
		same(t, "Add", c.Add([]api.Value{{Kind: 9}}, []int{1, 2}), api.ErrMade)
		same(t, "Entries", len(c.Entries()), 0)
		for _, l := range [][]string{nil, {}, {"a"}, {""}} {
			its, e := c.Roll(l)
			same(t, say("Roll", l), say(len(its), int(e)), say(0, int(api.ErrMade)))
		}
		same(t, "Rollup", c.Rollup(), api.Rollup{})
		same(t, "Copy", c.Copy() == nil, true)
		same(t, "Add", c.Add(nil, nil), api.ErrMade)
	}
}
