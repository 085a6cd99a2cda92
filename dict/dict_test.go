package dict_test

import (
	"fmt"
	"math"
	"slices"
	"strings"
	"testing"
	"unsafe"

	"talus/api"
	"talus/dict"
)

const (
	nan  = 0x7ff8000000000000
	inf  = 0x7ff0000000000000
	ninf = -1 << 52
	zero = math.MinInt // the bits of -0
)

func same(t *testing.T, what string, got, want any) {
	t.Helper()
	if a, b := fmt.Sprint(got), fmt.Sprint(want); a != b {
		t.Errorf("%s: %s, want %s", what, a, b)
	}
}

func integer(n int) api.Value { return api.Value{Kind: api.Int, N: n} }
func float(n int) api.Value   { return api.Value{Kind: api.Float, N: n} }
func str(s string) api.Value  { return api.Value{Kind: api.Str, S: s} }
func truth(n int) api.Value   { return api.Value{Kind: api.Bool, N: n} }
func bits(f float64) int      { return int(math.Float64bits(f)) }

func say(v api.Value) string { return fmt.Sprintf("{%d %d %q}", v.Kind, v.N, v.S) }

func sayAll(l []api.Value) string {
	var b strings.Builder
	for _, v := range l {
		b.WriteString(say(v))
	}
	return b.String()
}

// kinds: those of columns.
var kinds = []int{api.Int, api.Float, api.Str, api.Bool}

// noKinds: numbers that are no column's kind.
var noKinds = []int{math.MinInt, -4, -1, 0, 5, 6, 8, 255, 256, 257, 1<<32 + 1, math.MaxInt}

// draws: numbers of 64 bits, always the same ones.
func draws(n int) []uint64 {
	l := make([]uint64, n)
	u := uint64(1)
	for i := range l {
		u = u*6364136223846793005 + 1442695040888963407
		l[i] = u ^ u>>29
	}
	return l
}

// unlike: n values of a kind (of Bools at most two), in no order.
func unlike(kind, n int) []api.Value {
	if kind == api.Bool {
		return []api.Value{truth(1), truth(0)}[:min(n, 2)]
	}
	var l []api.Value
	for i := range n {
		j := (i*211 + 7) % n
		switch kind {
		case api.Int:
			l = append(l, integer(j-n/2))
		case api.Float:
			l = append(l, float(bits(float64(j-n/2)/4)))
		case api.Str:
			l = append(l, str(strings.Repeat("x", j%61)+fmt.Sprint(j))) // of at most 64 bytes
		}
	}
	return l
}

// fitting: values that a column of a kind may have, no Nulls.
func fitting(kind int) []api.Value {
	switch kind {
	case api.Int:
		return []api.Value{integer(0), integer(1), integer(-1), integer(nan), integer(math.MaxInt), integer(math.MinInt), integer(1 << 32), integer(256)}
	case api.Float:
		return []api.Value{float(0), float(nan), float(inf), float(ninf), float(1), float(bits(1)), float(bits(-1)), float(zero + 1), float(nan - (1 << 51) - 1)}
	case api.Str:
		return []api.Value{str(""), str("a"), str("A"), str("a "), str("a\x00"), str("\x00"), str("\xff"), str("é"), str("e\u0301"), str("NULL"), str("0"),
			str(strings.Repeat("x", 63)), str(strings.Repeat("x", 64)), str(strings.Repeat("x", 63) + "y")}
	}
	return []api.Value{truth(1), truth(0)}
}

// bad: values that are not good, of all kinds and of none.
func bad() []api.Value {
	l := []api.Value{
		{N: 1}, {S: "a"}, {N: -1, S: "a"},
		{Kind: api.Int, S: "a"}, {Kind: api.Int, N: 1, S: "a"}, {Kind: api.Int, S: "\x00"},
		{Kind: api.Float, S: "a"}, {Kind: api.Float, N: bits(1), S: "a"},
		float(zero), float(nan + 1), float(inf + 1), float(-1), float(ninf + 1), float(-1 << 51),
		{Kind: api.Str, N: 1}, {Kind: api.Str, N: 1, S: "a"}, {Kind: api.Str, N: -1, S: "a"},
		str(strings.Repeat("x", 65)), str(strings.Repeat("é", 33)), str(strings.Repeat("x", 70000)),
		truth(2), truth(-1), truth(256), truth(1 << 32), truth(math.MinInt),
		{Kind: api.Bool, S: "a"}, {Kind: api.Bool, N: 1, S: "a"},
	}
	for _, kind := range noKinds {
		if kind != api.Null {
			l = append(l, api.Value{Kind: kind}, api.Value{Kind: kind, N: 1}, api.Value{Kind: kind, S: "a"})
		}
	}
	return l
}

// strange: what a dictionary of a kind has no room for, ever.
func strange(kind int) []api.Value {
	l := append(bad(), api.Value{})
	for _, other := range kinds {
		if other != kind {
			l = append(l, fitting(other)...)
		}
	}
	return l
}

// A model is a dictionary that is a row of values, gone through from its start.
type model struct {
	kind int
	row  []api.Value
}

// never: all that is strange, by kinds.
var never = map[int][]api.Value{api.Int: strange(api.Int), api.Float: strange(api.Float), api.Str: strange(api.Str), api.Bool: strange(api.Bool)}

func (m *model) find(v api.Value) int {
	for i, w := range m.row {
		if v.Kind == w.Kind && v.N == w.N && v.S == w.S {
			return i
		}
	}
	return -1
}

func (m *model) fits(v api.Value) bool {
	return v.Kind == m.kind && !slices.Contains(never[m.kind], v)
}

func (m *model) add(v api.Value) (int, api.Errno) {
	id := m.find(v)
	switch {
	case !m.fits(v):
		return 0, api.ErrType
	case id >= 0:
		return id, api.OK
	case len(m.row) == 512:
		return 0, api.ErrFull
	}
	m.row = append(m.row, v)
	return len(m.row) - 1, api.OK
}

func (m *model) copy() *model { return &model{m.kind, slices.Clone(m.row)} }

func (m *model) room(l []api.Value) bool {
	o := m.copy()
	for _, v := range l {
		if _, e := o.add(v); e == api.ErrFull {
			return false
		}
	}
	return true
}

// adds does the same with both.
func adds(t *testing.T, what string, d *dict.Dict, m *model, l ...api.Value) {
	t.Helper()
	for _, v := range l {
		id, e := d.Add(v)
		if want, wrong := m.add(v); id != want || e != wrong {
			t.Errorf("%s: Add %s: %d %d, want %d %d", what, say(v), id, e, want, wrong)
		}
	}
}

// check asks a dictionary for all that it has, and for some that it has not.
func check(t *testing.T, what string, d *dict.Dict, m *model) {
	t.Helper()
	same(t, what+": Kind", d.Kind(), m.kind)
	same(t, what+": Len", d.Len(), len(m.row))
	if l := d.Values(); !slices.Equal(l, m.row) {
		t.Errorf("%s: Values %s, want %s", what, sayAll(l), sayAll(m.row))
	}
	for id, v := range m.row {
		if got, ok := d.Value(id); got != v || !ok {
			t.Errorf("%s: Value %d: %s %v, want %s", what, id, say(got), ok, say(v))
		}
		if found, ok := d.Find(v); found != id || !ok {
			t.Errorf("%s: Find %s: %d %v, want %d", what, say(v), found, ok, id)
		}
	}
	n := len(m.row)
	for _, id := range []int{math.MinInt, -512, -2, -1, n, n + 1, n + 512, 1 << 32, math.MaxInt} {
		if got, ok := d.Value(id); got != (api.Value{}) || ok {
			t.Errorf("%s: Value %d: %s %v", what, id, say(got), ok)
		}
	}
	for _, v := range append(fitting(m.kind), str("none"), integer(1<<40)) {
		want := m.find(v)
		if id, ok := d.Find(v); id != max(want, 0) || ok != (want >= 0) {
			t.Errorf("%s: Find %s: %d %v, want %d", what, say(v), id, ok, want)
		}
	}
}

// filled: a dictionary of values, and its model.
func filled(t *testing.T, kind int, l ...api.Value) (*dict.Dict, *model) {
	t.Helper()
	d, m := dict.New(kind), &model{kind: kind}
	adds(t, "filled", d, m, l...)
	return d, m
}

func TestP10_1New(t *testing.T) {
	for _, kind := range kinds {
		check(t, fmt.Sprint("New ", kind), dict.New(kind), &model{kind: kind})
		same(t, "Room", dict.New(kind).Room(nil), true)
	}
	for _, kind := range noKinds {
		same(t, fmt.Sprint("New ", kind), dict.New(kind) == nil, true)
	}
	same(t, "the limit", api.MaxIds, 512)
}

func TestP10_1Add(t *testing.T) {
	d := dict.New(api.Str)
	for i, c := range []struct {
		v    api.Value
		want string
	}{
		{str("a"), "0 0"}, {str("b"), "1 0"}, {str("a"), "0 0"}, {api.Value{}, "0 12"}, {str("b"), "1 0"}, {integer(1), "0 12"}, {str(""), "2 0"}, {str("A"), "3 0"}, {str("a"), "0 0"},
	} {
		id, e := d.Add(c.v)
		same(t, fmt.Sprint("Add ", i), fmt.Sprint(id, int(e)), c.want)
	}
	v, ok := d.Value(1)
	same(t, "Value 1", say(v)+fmt.Sprint(ok), say(str("b"))+"true")
	check(t, "the row", d, &model{api.Str, []api.Value{str("a"), str("b"), str(""), str("A")}})
	for _, kind := range kinds {
		l := fitting(kind)
		for first := range l { // each one first, and all of them again
			row := append(slices.Clone(l[first:]), l[:first]...)
			d, m := filled(t, kind, row...)
			same(t, "all of them", d.Len(), len(l))
			adds(t, "again", d, m, l...)
			check(t, fmt.Sprint(kind, " from ", first), d, m)
		}
	}
}

func TestP10_1AddType(t *testing.T) {
	for _, kind := range kinds {
		full, fullModel := filled(t, kind, unlike(kind, 512)...)
		some, someModel := filled(t, kind, fitting(kind)...)
		none, noneModel := filled(t, kind)
		for _, v := range strange(kind) {
			for _, c := range []struct {
				d *dict.Dict
				m *model
			}{{full, fullModel}, {some, someModel}, {none, noneModel}} {
				id, e := c.d.Add(v)
				same(t, fmt.Sprint("Add ", say(v), " to ", kind), fmt.Sprint(id, int(e)), "0 12")
				found, ok := c.d.Find(v)
				same(t, fmt.Sprint("Find ", say(v), " of ", kind), fmt.Sprint(found, ok), "0 false")
				same(t, "Len", c.d.Len(), len(c.m.row))
			}
		}
		check(t, "full", full, fullModel)
		check(t, "some", some, someModel)
		check(t, "none", none, noneModel)
	}
}

func TestP10_1AddFull(t *testing.T) {
	for _, kind := range []int{api.Int, api.Float, api.Str} {
		l := unlike(kind, 520)
		d, m := filled(t, kind, l[:511]...)
		same(t, "one less", d.Len(), 511)
		adds(t, "the last one", d, m, l[511])
		same(t, "full", d.Len(), 512)
		for _, v := range l[512:] {
			id, e := d.Add(v)
			same(t, "full: "+say(v), fmt.Sprint(id, int(e)), "0 7")
			found, ok := d.Find(v)
			same(t, "it is not there: "+say(v), fmt.Sprint(found, ok), "0 false")
		}
		for id, v := range l[:512] {
			got, e := d.Add(v)
			same(t, "it has one: "+say(v), fmt.Sprint(got, int(e)), fmt.Sprint(id, 0))
		}
		check(t, "full", d, m)
	}
	d, m := filled(t, api.Bool, truth(0), truth(1), truth(0))
	check(t, "of truths", d, m)
	same(t, "of truths", d.Len(), 2)
}

func TestP10_1Find(t *testing.T) {
	d, _ := filled(t, api.Int, integer(7), integer(0), integer(-7))
	for _, c := range []struct {
		v    api.Value
		want string
	}{
		{integer(7), "0 true"}, {integer(0), "1 true"}, {integer(-7), "2 true"},
		{integer(1), "0 false"}, {api.Value{}, "0 false"}, {float(7), "0 false"}, {float(0), "0 false"}, {str("7"), "0 false"}, {truth(0), "0 false"},
		{api.Value{Kind: api.Int, N: 7, S: "a"}, "0 false"}, {api.Value{Kind: 5, N: 7}, "0 false"}, {api.Value{N: 7}, "0 false"},
	} {
		id, ok := d.Find(c.v)
		same(t, "Find "+say(c.v), fmt.Sprint(id, ok), c.want)
	}
	same(t, "Find adds nothing", d.Len(), 3)
	adds(t, "Find adds nothing", d, &model{api.Int, []api.Value{integer(7), integer(0), integer(-7)}}, integer(1))
}

func TestP10_1Room(t *testing.T) {
	for _, kind := range []int{api.Int, api.Float, api.Str} {
		l := unlike(kind, 1100)
		for _, n := range []int{0, 1, 5, 256, 510, 511, 512} {
			d, m := filled(t, kind, l[:n]...)
			left := 512 - n
			fresh := l[n : n+left]
			what := fmt.Sprint("Room of ", kind, " with ", n)
			for _, c := range []struct {
				what string
				l    []api.Value
				want bool
			}{
				{"nothing", nil, true},
				{"an empty list", []api.Value{}, true},
				{"as many as there are", fresh, true},
				{"one more", l[n : n+left+1], false},
				{"many more", l[n:], false},
				{"those that it has", l[:n], true},
				{"those that it has, and as many as there are", l[:512], true},
				{"those that it has, and one more", l[:513], false},
				{"each twice", append(slices.Clone(fresh), fresh...), true},
				{"each twice, one more thrice", slices.Concat(fresh, fresh, l[600:601], l[600:601], l[600:601]), false},
				{"what never fits", strange(kind), true},
				{"and what never fits", slices.Concat(strange(kind), fresh, strange(kind)), true},
				{"and what never fits, and one more", slices.Concat(strange(kind), fresh, strange(kind), l[1099:]), false},
				{"many Nulls", make([]api.Value, 2000), true},
				{"one over and over", slices.Repeat(l[:1], 2000), true},
				{"the first one behind the others", append(slices.Clone(l[n:n+left+1]), l[:n]...), false},
			} {
				all := c.l[:cap(c.l)]
				given := slices.Clone(all)
				same(t, what+": "+c.what, d.Room(c.l), c.want)
				same(t, what+": "+c.what+": the list stays", slices.Equal(all, given), true)
				same(t, what+": "+c.what+": by the model", m.room(c.l), c.want)
			}
			check(t, what, d, m)
			adds(t, "and then", d, m, fresh...)
			same(t, "and then", d.Len(), 512)
		}
	}
	for n := range 3 {
		d, m := filled(t, api.Bool, unlike(api.Bool, n)...)
		same(t, "of truths", d.Room(slices.Repeat(append(strange(api.Bool), truth(0), truth(1)), 300)), true)
		check(t, "of truths", d, m)
	}
}

func TestP10_1RoomMany(t *testing.T) { // in a time that does not grow with the square
	d, m := filled(t, api.Int, unlike(api.Int, 512)...)
	same(t, "those that it has", d.Room(slices.Repeat(m.row, 2000)), true)
	l := make([]api.Value, 1<<20)
	for i := range l {
		l[i] = integer(1000 + i)
	}
	same(t, "others", d.Room(l), false)
	same(t, "others, in an empty one", dict.New(api.Int).Room(l), false)
	same(t, "of another kind", dict.New(api.Float).Room(l), true)
}

func TestP10_1Copy(t *testing.T) {
	for _, kind := range []int{api.Int, api.Float, api.Str} {
		l := unlike(kind, 520)
		for _, n := range []int{0, 1, 2, 3, 4, 5, 6, 7, 8, 9, 100, 511, 512} {
			what := fmt.Sprint("Copy of ", n)
			d, m := filled(t, kind, l[:n]...)
			o, p := d.Copy(), m.copy()
			check(t, what, o, p)
			adds(t, what+": the copy goes on", o, p, l[n+1], l[n])
			check(t, what+": the first stays", d, m)
			adds(t, what+": the first goes on", d, m, l[n+2], l[n+1], l[n+3])
			check(t, what+": the copy stays", o, p)
			check(t, what+": the first", d, m)
			q, r := o.Copy(), p.copy()
			adds(t, what+": a copy's copy", q, r, l[n+4], l[0])
			check(t, what+": a copy's copy", q, r)
			check(t, what+": the copy", o, p)
		}
	}
	d, m := filled(t, api.Bool, truth(1))
	o, p := d.Copy(), m.copy()
	adds(t, "of truths", o, p, truth(0))
	check(t, "of truths", o, p)
	check(t, "of truths", d, m)
}

func TestMadeByNoCall(t *testing.T) {
	for _, d := range []*dict.Dict{nil, {}} {
		for _, v := range append(bad(), api.Value{}, integer(0), integer(1), float(0), str(""), str("a"), truth(0)) {
			id, e := d.Add(v)
			same(t, "Add "+say(v), fmt.Sprint(id, int(e)), "0 1")
			id, ok := d.Find(v)
			same(t, "Find "+say(v), fmt.Sprint(id, ok), "0 false")
			same(t, "Room", d.Room([]api.Value{v}), false)
		}
		for _, id := range []int{math.MinInt, -1, 0, 1, math.MaxInt} {
			v, ok := d.Value(id)
			same(t, "Value", say(v)+fmt.Sprint(ok), say(api.Value{})+"false")
		}
		same(t, "Len", d.Len(), 0)
		same(t, "Kind", d.Kind(), 0)
		same(t, "Values", len(d.Values()), 0)
		same(t, "Room", d.Room(nil), false)
		same(t, "Room", d.Room([]api.Value{}), false)
		same(t, "Copy", d.Copy() == nil, true)
	}
}

func TestP10_2Small(t *testing.T) { // all rows of up to five values
	for kind, l := range map[int][]api.Value{
		api.Int:   {integer(0), integer(1), integer(-1), {}, truth(1)},
		api.Float: {float(0), float(zero), float(nan), float(nan + 1), float(1)},
		api.Str:   {str(""), str("a"), str("aa"), str("'a'"), integer(0)},
		api.Bool:  {truth(0), truth(1), truth(2), {}, integer(1)},
	} {
		var walk func(d *dict.Dict, m *model, left int)
		walk = func(d *dict.Dict, m *model, left int) {
			check(t, fmt.Sprint(kind), d, m)
			for _, v := range l {
				if left > 0 && !t.Failed() {
					next, after := d.Copy(), m.copy()
					adds(t, fmt.Sprint(kind), next, after, v)
					walk(next, after, left-1)
				}
			}
		}
		walk(dict.New(kind), &model{kind: kind}, 5)
	}
}

func TestP10_2Undoes(t *testing.T) { // Value undoes Add, without a gap, in whatever order values come
	for _, kind := range kinds {
		pool := append(unlike(kind, 500), fitting(kind)...)
		for _, n := range []int{2, 30, 500} {
			d, m := filled(t, kind)
			for i, x := range draws(1200) {
				v := pool[x%uint64(min(n, len(pool)))]
				before := d.Len()
				_, known := d.Find(v)
				id, e := d.Add(v)
				want, _ := m.add(v)
				same(t, "Add", fmt.Sprint(id, int(e)), fmt.Sprint(want, 0))
				got, ok := d.Value(id)
				same(t, "Value undoes Add", say(got)+fmt.Sprint(ok), say(v)+"true")
				if known {
					same(t, "as many", d.Len(), before)
				} else {
					same(t, "the next id", fmt.Sprint(id, d.Len()), fmt.Sprint(before, before+1))
				}
				if i%100 == 0 {
					check(t, fmt.Sprint(kind, n, i), d, m)
				}
			}
			check(t, fmt.Sprint(kind, n), d, m)
			seen := map[api.Value]bool{}
			for _, v := range d.Values() {
				same(t, "unlike values: "+say(v), seen[v], false)
				seen[v] = true
			}
		}
	}
}

func TestMemory(t *testing.T) {
	l := unlike(api.Str, 40)
	d, m := filled(t, api.Str, l...)
	a, b := d.Values(), d.Values()
	clear(a[:cap(a)])
	check(t, "an answer of its own", d, m)
	same(t, "an answer of its own", sayAll(b), sayAll(m.row))
	adds(t, "it goes on", d, m, str("more"))
	same(t, "as it was", sayAll(b), sayAll(m.row[:40]))
	for range 70 { // in whatever room there is behind a list
		adds(t, "it goes on", d, m, str(fmt.Sprint("more ", d.Len())))
		a = d.Values()
		clear(a[:cap(a)])
		o := d.Copy()
		o.Add(str("another"))
		check(t, "apart", d, m)
	}
}

func TestTextsAreNotKept(t *testing.T) {
	for _, room := range []bool{false, true} {
		bytes := []byte("abc")
		text := str(unsafe.String(&bytes[0], len(bytes)))
		d := dict.New(api.Str)
		if room {
			same(t, "Room", d.Room([]api.Value{text}), true)
		}
		d.Add(text)
		copy(bytes, "xyz")
		same(t, "changed behind", sayAll(d.Values()), say(str("abc")))
		id, ok := d.Find(str("abc"))
		same(t, "changed behind", fmt.Sprint(id, ok), "0 true")
		id, e := d.Add(str("xyz"))
		same(t, "changed behind", fmt.Sprint(id, int(e)), "1 0")
	}
}
