package schema_test

import (
	"fmt"
	"math"
	"math/rand"
	"regexp"
	"slices"
	"strings"
	"testing"
	"unsafe"

	"talus/api"
	"talus/schema"
)

const (
	mostColumns  = 8
	mostMeasures = 16
	mostRows     = 200
)

func same(t *testing.T, what string, got, want any) {
	t.Helper()
	if a, b := fmt.Sprintf("%+v", got), fmt.Sprintf("%+v", want); a != b {
		t.Errorf("%s: %s, want %s", what, a, b)
	}
}

func column(name string, kind int) api.Column      { return api.Column{Name: name, Kind: kind} }
func table(name string, l ...api.Column) api.Table { return api.Table{Name: name, Columns: l} }
func measure(kind int, column string) api.Measure  { return api.Measure{Kind: kind, Column: column} }
func integer(n int) api.Value                      { return api.Value{Kind: api.Int, N: n} }
func str(s string) api.Value                       { return api.Value{Kind: api.Str, S: s} }
func rollup(dims []string, l []api.Measure) api.Rollup {
	return api.Rollup{Name: "r", Table: "t", Dims: dims, Measures: l}
}

// abcd has a column of each kind.
func abcd() api.Table {
	return table("t", column("a", api.Int), column("b", api.Float), column("c", api.Str), column("d", api.Bool))
}

// A second, plain schema: each error is reckoned by itself, and the first one in the chapter's order is told.

var shape = regexp.MustCompile(`\A[a-z][a-z0-9_]{0,15}\z`)

var theWords = strings.Fields("SELECT FROM WHERE GROUP BY HAVING ORDER LIMIT AS AND OR NOT IS NULL TRUE FALSE ASC DESC NAN INF")

func goodName(s string) bool {
	return shape.MatchString(s) && !slices.Contains(theWords, strings.ToUpper(s))
}

type wrong struct {
	e  api.Errno
	is bool
}

func theFirst(l ...wrong) api.Errno {
	for _, w := range l {
		if w.is {
			return w.e
		}
	}
	return api.OK
}

func hasTwice(l []string) bool {
	seen := map[string]bool{}
	for _, s := range l {
		seen[s] = true
	}
	return len(seen) < len(l)
}

func ofTable(t api.Table) api.Errno {
	var name, kind bool
	var names []string
	for _, c := range t.Columns {
		name = name || !goodName(c.Name)
		kind = kind || c.Kind < 1 || c.Kind > 4
		names = append(names, c.Name)
	}
	return theFirst(
		wrong{api.ErrName, name || !goodName(t.Name)},
		wrong{api.ErrArg, kind || len(names) == 0 || len(names) > mostColumns},
		wrong{api.ErrExists, hasTwice(names)})
}

func ofRollup(r api.Rollup, t api.Table) api.Errno {
	kinds := map[string]int{}
	for _, c := range slices.Backward(t.Columns) {
		kinds[c.Name] = c.Kind
	}
	var kind, missing, other bool
	var measures []string
	for _, d := range r.Dims {
		_, ok := kinds[d]
		missing = missing || !ok
	}
	for _, m := range r.Measures {
		k, ok := kinds[m.Column]
		kind = kind || m.Kind < 1 || m.Kind > 7
		missing = missing || !ok
		other = other || m.Kind == 2 && k != 1 || m.Kind == 6 && k != 1 && k != 2
		measures = append(measures, fmt.Sprint(m.Kind, m.Column))
	}
	return theFirst(
		wrong{api.ErrName, !goodName(r.Name)},
		wrong{api.ErrTable, r.Table != t.Name},
		wrong{api.ErrArg, kind || len(r.Dims) > mostColumns || len(measures) > mostMeasures},
		wrong{api.ErrColumn, missing},
		wrong{api.ErrExists, hasTwice(r.Dims) || hasTwice(measures)},
		wrong{api.ErrType, other})
}

// P14.1

func TestP14_1NameOfShortTexts(t *testing.T) {
	signs := "az_09AZ`{/: -\x00\x7fé\xff"
	for i := range len(signs) {
		for j := range len(signs) {
			for k := range len(signs) {
				s := string([]byte{signs[i], signs[j], signs[k]})
				for n := range len(s) + 1 {
					if got, want := schema.Name(s[:n]), goodName(s[:n]); got != want {
						t.Fatalf("Name(%q): %v", s[:n], got)
					}
				}
			}
		}
	}
}

func TestP14_1NameOfEachByte(t *testing.T) {
	for c := range 256 {
		for _, s := range []string{string([]byte{byte(c)}), string([]byte{'a', byte(c)}), string([]byte{'a', byte(c), 'b'})} {
			same(t, fmt.Sprintf("Name(%q)", s), schema.Name(s), goodName(s))
		}
	}
	for r := rune(0x80); r < 0x30000; r++ {
		if s := "a" + string(r); schema.Name(s) || schema.Name(string(r)) {
			t.Fatalf("Name(%q) is one", s)
		}
	}
}

func TestP14_1NameLengths(t *testing.T) {
	for n := range 40 {
		for _, c := range []string{"a", "z", "_", "7"} {
			s := strings.Repeat(c, n)
			same(t, "Name of "+s, schema.Name(s), goodName(s))
			same(t, "Name of a"+s, schema.Name("a"+s), n <= 15)
		}
	}
	same(t, "Name of 9 letters of two bytes", schema.Name(strings.Repeat("é", 9)), false)
	same(t, "Name of a great text", schema.Name(strings.Repeat("a", 1<<20)), false)
}

func TestP14_1NameOfWords(t *testing.T) {
	for _, w := range theWords {
		w = strings.ToLower(w)
		same(t, "Name of "+w, schema.Name(w), false)
		same(t, "Name of "+w+"_", schema.Name(w+"_"), true)
		same(t, "Name of x"+w, schema.Name("x"+w), true)
		for n := 1; n < len(w); n++ { // a piece of a word is a name, if it is no word itself
			same(t, "Name of "+w[:n], schema.Name(w[:n]), goodName(w[:n]))
			same(t, "Name of "+w[n:], schema.Name(w[n:]), goodName(w[n:]))
		}
		for _, v := range theWords {
			v = strings.ToLower(v)
			same(t, "Name of "+w+v, schema.Name(w+v), goodName(w+v))
			same(t, "Name of "+w+" "+v, schema.Name(w+" "+v), false)
		}
		same(t, "Name of "+strings.ToUpper(w), schema.Name(strings.ToUpper(w)), false)
	}
	same(t, "Name(count)", schema.Name("count"), true) // no word: what calls are named
	same(t, "Name(sum)", schema.Name("sum"), true)
	same(t, "Name of nothing", schema.Name(""), false)
	same(t, "Name of a blank", schema.Name(" "), false)
}

// trials has names that are there often, and others.
var trials = []string{"a", "b", "c", "t", "x_1", "", "A", "1a", "_a", "by", "null", "a b", strings.Repeat("a", 16), strings.Repeat("a", 17)}

// anyName is mostly a good one.
func anyName(r *rand.Rand) string {
	if r.Intn(12) == 0 {
		return trials[r.Intn(len(trials))]
	}
	return "abcdefghijklm"[r.Intn(13):][:1]
}

func anyKind(r *rand.Rand, most int) int {
	if r.Intn(20) == 0 {
		return []int{0, -1, most + 1, math.MaxInt, math.MinInt, 1 << 32, 1<<32 + 1}[r.Intn(7)]
	}
	return 1 + r.Intn(most)
}

func TestP14_1TableExamples(t *testing.T) {
	same(t, "Table(t, a, a)", schema.Table(table("t", column("a", 1), column("a", 1))), api.ErrExists)
	same(t, "Table(t, a, a) of other kinds", schema.Table(table("t", column("a", 1), column("a", 2))), api.ErrExists)
	same(t, "Table(abcd)", schema.Table(abcd()), api.OK)
	same(t, "Table(t, t)", schema.Table(table("t", column("t", 1))), api.OK)
	same(t, "Table()", schema.Table(api.Table{}), api.ErrName)
	same(t, "Table(t)", schema.Table(table("t")), api.ErrArg)
	same(t, "Table(by)", schema.Table(table("by", column("a", 1))), api.ErrName)
	for _, kind := range []int{0, 5, -1, math.MaxInt, math.MinInt, 1<<32 + 1} {
		same(t, fmt.Sprint("Table of a column of kind ", kind), schema.Table(table("t", column("a", kind))), api.ErrArg)
		same(t, fmt.Sprint("Table of another column of kind ", kind), schema.Table(table("t", column("a", 1), column("b", kind))), api.ErrArg)
	}
}

func TestP14_1TableCounts(t *testing.T) {
	for n := range 20 {
		x := table("t")
		for i := range n {
			x.Columns = append(x.Columns, column(fmt.Sprint("c", i), 1+i%4))
		}
		want := api.OK
		if n == 0 || n > mostColumns {
			want = api.ErrArg
		}
		same(t, fmt.Sprint("Table of columns ", n), schema.Table(x), want)
		for i := range n {
			bad := table("t", slices.Clone(x.Columns)...)
			bad.Columns[i].Name = "Bad"
			same(t, fmt.Sprint("Table with a bad name of columns ", n), schema.Table(bad), api.ErrName)
			twice := table("t", append(slices.Clone(x.Columns), x.Columns[i])...)
			want := api.ErrExists
			if n >= mostColumns {
				want = api.ErrArg
			}
			same(t, fmt.Sprint("Table with one twice behind columns ", n), schema.Table(twice), want)
		}
	}
}

func TestP14_1TableErrorsInOrder(t *testing.T) {
	r := rand.New(rand.NewSource(1))
	seen := map[api.Errno]int{}
	for range 100000 {
		x := table(anyName(r))
		for range r.Intn(11) {
			x.Columns = append(x.Columns, column(anyName(r), anyKind(r, 4)))
		}
		got, want := schema.Table(x), ofTable(x)
		if got != want {
			t.Fatalf("Table(%+v): %v, want %v", x, got, want)
		}
		seen[want]++
	}
	for _, e := range []api.Errno{api.OK, api.ErrName, api.ErrArg, api.ErrExists} {
		if seen[e] < 100 {
			t.Errorf("%v came %d times", e, seen[e])
		}
	}
}

func TestP14_1Column(t *testing.T) {
	x := table("t", column("b", 3), column("a", 1), column("b", 4), column("", -7), column("A", 9))
	tell := func(name string) string {
		at, kind, ok := schema.Column(x, name)
		return fmt.Sprint(at, kind, ok)
	}
	same(t, "Column b", tell("b"), "0 3 true")
	same(t, "Column a", tell("a"), "1 1 true")
	same(t, "Column of no name", tell(""), "3 -7 true")
	same(t, "Column A", tell("A"), "4 9 true")
	same(t, "Column t", tell("t"), "0 0 false")
	same(t, "Column aa", tell("aa"), "0 0 false")
	x = api.Table{}
	same(t, "Column of no table", tell(""), "0 0 false")
}

// P14.2

func TestP14_2RollupExamples(t *testing.T) {
	ask := func(what string, r api.Rollup, want api.Errno) {
		t.Helper()
		same(t, what, schema.Rollup(r, abcd()), want)
	}
	ask("sum of a text", rollup(nil, []api.Measure{measure(2, "c")}), api.ErrType)
	ask("nothing", rollup(nil, nil), api.OK)
	ask("dims", rollup([]string{"d", "a", "c", "b"}, nil), api.OK)
	ask("a dim that is a measure's column, too", rollup([]string{"a"}, []api.Measure{measure(2, "a"), measure(1, "a")}), api.OK)
	ask("no name", api.Rollup{Table: "t"}, api.ErrName)
	ask("a word", api.Rollup{Name: "group", Table: "t"}, api.ErrName)
	ask("the table's name", api.Rollup{Name: "t", Table: "t"}, api.OK)
	ask("another table", api.Rollup{Name: "r", Table: "s"}, api.ErrTable)
	ask("no table", api.Rollup{Name: "r"}, api.ErrTable)
	ask("a dim that is not there", rollup([]string{"a", "e"}, nil), api.ErrColumn)
	ask("a measure of what is not there", rollup(nil, []api.Measure{measure(1, "a"), measure(1, "")}), api.ErrColumn)
	ask("a dim twice", rollup([]string{"a", "b", "a"}, nil), api.ErrExists)
	ask("a measure twice", rollup(nil, []api.Measure{measure(1, "a"), measure(1, "b"), measure(1, "a")}), api.ErrExists)
	ask("a sum of a text twice", rollup(nil, []api.Measure{measure(2, "c"), measure(2, "c")}), api.ErrExists)
	same(t, "of no table", schema.Rollup(api.Rollup{Name: "r"}, api.Table{}), api.OK)
	same(t, "of no table, with a dim", schema.Rollup(api.Rollup{Name: "r", Dims: []string{""}}, api.Table{}), api.ErrColumn)
	same(t, "nothing at all", schema.Rollup(api.Rollup{}, api.Table{}), api.ErrName)
}

func TestP14_2MeasuresOfKinds(t *testing.T) {
	x := table("t")
	for kind := -1; kind < 7; kind++ {
		x.Columns = append(x.Columns, column(fmt.Sprint("k", kind+1), kind))
	}
	for _, m := range []int{0, 1, 2, 3, 4, 5, 6, 7, 8, -1, math.MaxInt, math.MinInt, 1<<32 + 1} {
		for _, c := range x.Columns {
			want := api.OK
			switch {
			case m < 1 || m > 7:
				want = api.ErrArg
			case m == 2 && c.Kind != api.Int, m == 6 && c.Kind != api.Int && c.Kind != api.Float:
				want = api.ErrType
			}
			l := []api.Measure{measure(1, "k1"), measure(m, c.Name)}
			if l[0] != l[1] {
				same(t, fmt.Sprint("measure ", m, " of a column of kind ", c.Kind), schema.Rollup(rollup(nil, l), x), want)
			}
		}
	}
}

// The first column of a name is the one that a measure is of.
func TestP14_2RollupOfAnyTable(t *testing.T) {
	x := table("No", column("a", 1), column("a", 3), column("B", 3), column("B", 1))
	r := api.Rollup{Name: "r", Table: "No", Measures: []api.Measure{measure(2, "a")}}
	same(t, "a sum of the first", schema.Rollup(r, x), api.OK)
	r.Measures[0].Column = "B"
	same(t, "a sum of the other", schema.Rollup(r, x), api.ErrType)
}

func TestP14_2RollupCounts(t *testing.T) {
	x := abcd()
	for i := range 20 {
		x.Columns = append(x.Columns, column(fmt.Sprint("e", i), 1))
	}
	for n := range 24 {
		r := rollup(nil, nil)
		for i := range n {
			r.Dims = append(r.Dims, x.Columns[i].Name)
		}
		want := api.OK
		if n > mostColumns {
			want = api.ErrArg
		}
		same(t, fmt.Sprint("dims ", n), schema.Rollup(r, x), want)
		r = rollup([]string{"a"}, nil)
		for i := range n {
			r.Measures = append(r.Measures, measure(1, x.Columns[i].Name))
		}
		want = api.OK
		if n > mostMeasures {
			want = api.ErrArg
		}
		same(t, fmt.Sprint("measures ", n), schema.Rollup(r, x), want)
	}
}

func TestP14_2RollupErrorsInOrder(t *testing.T) {
	r := rand.New(rand.NewSource(2))
	seen := map[api.Errno]int{}
	for range 300000 {
		x := abcd()
		if r.Intn(10) == 0 {
			x.Columns = append(x.Columns, column(anyName(r), anyKind(r, 4)), column("a", 3))
		}
		its := api.Rollup{Name: anyName(r), Table: "t"}
		if r.Intn(20) == 0 {
			its.Table = anyName(r)
		}
		for range r.Intn(4) {
			its.Dims = append(its.Dims, trials[r.Intn(3+r.Intn(2))])
		}
		for range r.Intn(5) {
			its.Measures = append(its.Measures, measure(anyKind(r, 7), trials[r.Intn(3+r.Intn(2))]))
		}
		for r.Intn(60) == 0 || len(its.Dims) > 3 && len(its.Dims) < 9 {
			its.Dims = append(its.Dims, "d")
		}
		for r.Intn(60) == 0 || len(its.Measures) > 4 && len(its.Measures) < 17 {
			its.Measures = append(its.Measures, measure(1, "d"))
		}
		got, want := schema.Rollup(its, x), ofRollup(its, x)
		if got != want {
			t.Fatalf("Rollup(%+v, %+v): %v, want %v", its, x, got, want)
		}
		seen[want]++
	}
	for _, e := range []api.Errno{api.OK, api.ErrName, api.ErrTable, api.ErrArg, api.ErrColumn, api.ErrExists, api.ErrType} {
		if seen[e] < 100 {
			t.Errorf("%v came %d times", e, seen[e])
		}
	}
}

func TestP14_2Has(t *testing.T) {
	r := rollup([]string{"d"}, []api.Measure{measure(2, "a"), measure(3, "b"), measure(-1, "")})
	for _, m := range r.Measures {
		same(t, fmt.Sprint("Has ", m), schema.Has(r, m), true)
	}
	for _, m := range []api.Measure{measure(2, "b"), measure(3, "a"), measure(1, "d"), measure(2, "A"), measure(0, "a"), {}} {
		same(t, fmt.Sprint("Has ", m), schema.Has(r, m), false)
		same(t, fmt.Sprint("nothing has ", m), schema.Has(api.Rollup{}, m), false)
	}
}

// P14.3

func TestP14_3RowsCounts(t *testing.T) {
	x := table("t", column("a", 1))
	for n := range 203 {
		rows := make([][]api.Value, n)
		for i := range rows {
			rows[i] = []api.Value{integer(i)}
		}
		want := api.OK
		if n == 0 || n > mostRows {
			want = api.ErrArg
		}
		same(t, fmt.Sprint("Rows of rows ", n), schema.Rows(x, rows), want)
		if n > 0 {
			if want == api.OK {
				want = api.ErrSchema
			}
			for _, at := range []int{0, n / 2, n - 1} {
				bad := slices.Clone(rows)
				bad[at] = []api.Value{str("a")}
				same(t, fmt.Sprint("Rows of a bad one of ", n), schema.Rows(x, bad), want)
			}
		}
	}
	same(t, "Rows of nil", schema.Rows(x, nil), api.ErrArg)
	same(t, "Rows of nothing of no table", schema.Rows(api.Table{}, nil), api.ErrArg)
	same(t, "Rows of no values of no table", schema.Rows(api.Table{}, [][]api.Value{{}, nil}), api.OK)
	same(t, "Rows of a value of no table", schema.Rows(api.Table{}, [][]api.Value{{{}}}), api.ErrSchema)
}

func TestP14_3RowsLengths(t *testing.T) {
	x := abcd()
	row := []api.Value{{}, {}, {}, {}, {}, {}}
	for n := range len(row) + 1 {
		want := api.ErrSchema
		if n == 4 {
			want = api.OK
		}
		same(t, fmt.Sprint("Rows of values ", n), schema.Rows(x, [][]api.Value{row[:n]}), want)
		same(t, fmt.Sprint("Rows of values behind others ", n), schema.Rows(x, [][]api.Value{row[:4], row[:n]}), want)
	}
	same(t, "Rows of nil", schema.Rows(x, [][]api.Value{nil}), api.ErrSchema)
}

// fit tells what may stand in a column of each kind: a Null, and values of its own kind that are good.
func fit(v api.Value, kind int) bool {
	nan := uint64(v.N)&0x7ff0000000000000 == 0x7ff0000000000000 && uint64(v.N)<<12 != 0
	switch v.Kind {
	case 0:
		return kind >= 1 && kind <= 4 && v.N == 0 && v.S == ""
	case 1:
		return kind == 1 && v.S == ""
	case 2:
		return kind == 2 && v.S == "" && v.N != math.MinInt && (!nan || v.N == 0x7ff8000000000000)
	case 3:
		return kind == 3 && v.N == 0 && len(v.S) <= 64
	case 4:
		return kind == 4 && v.S == "" && (v.N == 0 || v.N == 1)
	}
	return false
}

func TestP14_3RowsValues(t *testing.T) {
	numbers := []int{0, 1, 2, -1, math.MaxInt, math.MinInt, 0x3ff0000000000000, 0x7ff0000000000000, 0x7ff0000000000001, 0x7ff8000000000000, 0x7ff8000000000001, -1 << 52}
	texts := []string{"", "a", "\xff", strings.Repeat("x", 64), strings.Repeat("x", 65)}
	kinds := []int{0, 1, 2, 3, 4, 5, -1, math.MaxInt, math.MinInt, 1<<32 + 1}
	for _, kind := range kinds {
		for at := range 4 {
			x := abcd()
			x.Columns[at].Kind = kind
			for _, k := range kinds {
				for _, n := range numbers {
					for _, s := range texts {
						v := api.Value{Kind: k, N: n, S: s}
						row := make([]api.Value, 4)
						row[at] = v
						want := api.OK
						if !fit(v, kind) {
							want = api.ErrSchema
						}
						if got := schema.Rows(x, [][]api.Value{row}); got != want {
							t.Fatalf("Rows of %+v at %d, of kind %d: %v, want %v", v, at, kind, got, want)
						}
					}
				}
			}
		}
	}
}

func TestP14_3Find(t *testing.T) {
	l := []api.Table{table("b", column("x", 1)), table("a", column("y", 2), column("y", -3)), table("b", column("z", 3)), table("")}
	tell := func(l []api.Table, name string) string {
		x, ok := schema.Find(l, name)
		return fmt.Sprint(x, ok)
	}
	same(t, "Find b", tell(l, "b"), "{b [{x 1}]} true")
	same(t, "Find a", tell(l, "a"), "{a [{y 2} {y -3}]} true")
	same(t, "Find of no name", tell(l, ""), "{ []} true")
	for _, name := range []string{"c", "B", "aa", "x"} {
		same(t, "Find "+name, tell(l, name), "{ []} false")
	}
	same(t, "Find in nothing", tell(nil, ""), "{ []} false")
}

// What Find tells shares no memory with the tables, those behind the list's end and texts included.
func TestP14_3FindIsNewMemory(t *testing.T) {
	name, its := []byte("tab"), []byte("col")
	text := func(b []byte) string { return unsafe.String(&b[0], len(b)) }
	columns := make([]api.Column, 3, 8)
	copy(columns[:8], []api.Column{column(text(its), 1), column("b", 2), column("c", 3), column("d", 4), column("e", 5)})
	l := []api.Table{{Name: text(name), Columns: columns}}
	x, ok := schema.Find(l, "tab")
	for i := range columns {
		columns[i] = column("spoiled", 9)
	}
	l[0].Name = "spoiled"
	copy(name, "xxx")
	copy(its, "xxx")
	same(t, "what was found", fmt.Sprint(x, ok), "{tab [{col 1} {b 2} {c 3}]} true")
	full := x.Columns[:cap(x.Columns)]
	for i := range full {
		full[i] = column("spoiled", 7)
	}
	same(t, "the columns", columns[:5], "[{Name:spoiled Kind:9} {Name:spoiled Kind:9} {Name:spoiled Kind:9} {Name:d Kind:4} {Name:e Kind:5}]")
}

// P14.4

func TestP14_4ColumnFindsEachOfWhatTableTakes(t *testing.T) {
	r := rand.New(rand.NewSource(3))
	taken := 0
	for range 50000 {
		x := table("t")
		for range 1 + r.Intn(8) {
			x.Columns = append(x.Columns, column(anyName(r), anyKind(r, 4)))
		}
		if schema.Table(x) != api.OK {
			continue
		}
		taken++
		for i, c := range x.Columns {
			at, kind, ok := schema.Column(x, c.Name)
			if at != i || kind != c.Kind || !ok {
				t.Fatalf("Column(%+v, %q): %d %d %v", x, c.Name, at, kind, ok)
			}
		}
	}
	if taken < 1000 {
		t.Errorf("only %d tables were taken", taken)
	}
}

// P2 of all calls: nothing that is handed in is changed, nor what lies behind the lists' ends.
func TestP14NothingIsChanged(t *testing.T) {
	dims := []string{"a", "b", "spare", "a"}
	measures := []api.Measure{measure(2, "a"), measure(1, "a"), measure(9, "spare")}
	columns := []api.Column{column("a", 1), column("b", 2), column("spare", 9)}
	values := []api.Value{integer(1), {}, integer(7)}
	rows := [][]api.Value{values[:2], values[:2], {str("spare")}}
	x := api.Table{Name: "t", Columns: columns[:2]}
	r := rollup(dims[:2], measures[:2])
	say := func() string { return fmt.Sprint(dims, measures, columns, values, rows) }
	before := say()
	same(t, "Table", schema.Table(x), api.OK)
	same(t, "Rollup", schema.Rollup(r, x), api.OK)
	same(t, "Rows", schema.Rows(x, rows[:2]), api.OK)
	same(t, "Has", schema.Has(r, measure(9, "spare")), false)
	schema.Find([]api.Table{x}, "t")
	schema.Column(x, "b")
	same(t, "what was handed in", say(), before)
}

// P1: great lists are gone through, too.
func TestP14GreatLists(t *testing.T) {
	const n = 200000
	x := api.Table{Name: "t", Columns: make([]api.Column, n)}
	for i := range x.Columns {
		x.Columns[i] = column(fmt.Sprint("c", i), 1)
	}
	same(t, "Table", schema.Table(x), api.ErrArg)
	same(t, "Rollup", schema.Rollup(rollup(make([]string, n), make([]api.Measure, n)), x), api.ErrArg)
	same(t, "Rows", schema.Rows(x, make([][]api.Value, n)), api.ErrArg)
	same(t, "Rows of a long one", schema.Rows(x, [][]api.Value{make([]api.Value, n)}), api.OK)
	at, kind, ok := schema.Column(x, fmt.Sprint("c", n-1))
	same(t, "Column", fmt.Sprint(at, kind, ok), fmt.Sprint(n-1, " 1 true"))
}
