package record_test

import (
	"bytes"
	"encoding/binary"
	"fmt"
	"hash/crc32"
	"math"
	"math/rand"
	"slices"
	"strings"
	"testing"
	"unsafe"

	"talus/api"
	"talus/record"
)

const (
	mostColumns  = 8
	mostMeasures = 16
	mostRows     = 200
	mostBytes    = 262144
	nan          = 0x7ff8000000000000
	minusZero    = math.MinInt // the bits of -0
)

func integer(n int) api.Value { return api.Value{Kind: api.Int, N: n} }
func float(n int) api.Value   { return api.Value{Kind: api.Float, N: n} }
func str(s string) api.Value  { return api.Value{Kind: api.Str, S: s} }
func truth(n int) api.Value   { return api.Value{Kind: api.Bool, N: n} }

func same(t *testing.T, what string, got, want any) {
	t.Helper()
	if a, b := fmt.Sprint(got), fmt.Sprint(want); a != b {
		t.Errorf("%s: %s, want %s", what, a, b)
	}
}

// short is what a text of something long begins with.
func short(s string) string {
	if len(s) > 300 {
		return fmt.Sprint(s[:300], "..", len(s))
	}
	return s
}

// A second, plain record: what it says, which may be, and its bytes.

func say(r record.Record) string {
	var b strings.Builder
	fmt.Fprintf(&b, "%d table %q", r.Kind, r.Table.Name)
	for _, c := range r.Table.Columns {
		fmt.Fprintf(&b, " %q:%d", c.Name, c.Kind)
	}
	fmt.Fprintf(&b, " rollup %q %q", r.Rollup.Name, r.Rollup.Table)
	for _, d := range r.Rollup.Dims {
		fmt.Fprintf(&b, " %q", d)
	}
	for _, m := range r.Rollup.Measures {
		fmt.Fprintf(&b, " %d:%q", m.Kind, m.Column)
	}
	fmt.Fprintf(&b, " batch %q", r.Name)
	for _, row := range r.Rows {
		b.WriteString(" /")
		for _, v := range row {
			fmt.Fprintf(&b, " %d:%d:%q", v.Kind, v.N, v.S)
		}
	}
	return b.String()
}

func sayAll(l []record.Record) string {
	var b strings.Builder
	for _, r := range l {
		b.WriteString(say(r) + "\n")
	}
	return b.String()
}

func goodValue(v api.Value) bool {
	f := math.Float64frombits(uint64(v.N))
	switch v.Kind {
	case api.Null:
		return v == api.Value{}
	case api.Int:
		return v.S == ""
	case api.Float:
		return v.S == "" && (v.N == 0 || f != 0) && (f == f || v.N == nan)
	case api.Str:
		return v.N == 0 && len(v.S) <= 64
	case api.Bool:
		return v.S == "" && v.N >= 0 && v.N <= 1
	}
	return false
}

func mayBe(r record.Record) bool {
	noTable := r.Table.Name == "" && len(r.Table.Columns) == 0
	noRollup := r.Rollup.Name == "" && r.Rollup.Table == "" && len(r.Rollup.Dims) == 0 && len(r.Rollup.Measures) == 0
	noBatch := r.Name == "" && len(r.Rows) == 0
	switch r.Kind {
	case 1:
		return noRollup && noBatch && len(r.Table.Columns) > 0 && len(r.Table.Columns) <= mostColumns
	case 2:
		return noTable && noBatch && len(r.Rollup.Dims) <= mostColumns && len(r.Rollup.Measures) <= mostMeasures
	case 3:
		if !noTable || !noRollup || len(r.Rows) == 0 || len(r.Rows) > mostRows {
			return false
		}
		for _, row := range r.Rows {
			if len(row) == 0 || len(row) > mostColumns || len(row) != len(r.Rows[0]) {
				return false
			}
			for _, v := range row {
				if !goodValue(v) {
					return false
				}
			}
		}
		return true
	}
	return false
}

// writer writes numbers and texts.
type writer struct{ b []byte }

func (w *writer) numbers(l ...int) {
	for _, n := range l {
		w.b = binary.AppendUvarint(w.b, uint64(n))
	}
}

func (w *writer) texts(l ...string) {
	for _, s := range l {
		w.numbers(len(s))
		w.b = append(w.b, s...)
	}
}

func bytesOfRow(row []api.Value) []byte {
	w := &writer{}
	w.numbers(len(row))
	for _, v := range row {
		w.numbers(v.Kind)
		switch v.Kind {
		case api.Int, api.Float, api.Bool:
			w.b = binary.AppendVarint(w.b, int64(v.N))
		case api.Str:
			w.texts(v.S)
		}
	}
	return w.b
}

func bytesOf(r record.Record) []byte {
	w := &writer{}
	w.numbers(r.Kind)
	switch r.Kind {
	case 1:
		w.texts(r.Table.Name)
		w.numbers(len(r.Table.Columns))
		for _, c := range r.Table.Columns {
			w.texts(c.Name)
			w.numbers(c.Kind)
		}
	case 2:
		w.texts(r.Rollup.Name, r.Rollup.Table)
		w.numbers(len(r.Rollup.Dims))
		w.texts(r.Rollup.Dims...)
		w.numbers(len(r.Rollup.Measures))
		for _, m := range r.Rollup.Measures {
			w.numbers(m.Kind)
			w.texts(m.Column)
		}
	case 3:
		w.texts(r.Name)
		w.numbers(len(r.Rows))
		for _, row := range r.Rows {
			w.texts(string(bytesOfRow(row)))
		}
	}
	return w.b
}

// reader reads numbers and texts, till it can't.
type reader struct {
	b   []byte
	bad bool
}

func (r *reader) number() int {
	u, n := binary.Uvarint(r.b)
	if n <= 0 {
		r.b, r.bad = nil, true
		return 0
	}
	r.b = r.b[n:]
	return int(u)
}

// count is a number; 0, if it is above the most that there may be.
func (r *reader) count(most int) int {
	n := r.number()
	if n < 0 || n > most {
		r.bad = true
		return 0
	}
	return n
}

func (r *reader) text() string {
	n := r.number()
	if n < 0 || n > len(r.b) {
		r.b, r.bad = nil, true
		return ""
	}
	s := string(r.b[:n])
	r.b = r.b[n:]
	return s
}

func (r *reader) row() []api.Value {
	its := &reader{b: []byte(r.text())}
	var row []api.Value
	for range its.count(mostColumns) {
		v := api.Value{Kind: its.number()}
		switch v.Kind {
		case api.Int, api.Float, api.Bool:
			n, size := binary.Varint(its.b)
			if size <= 0 {
				its.bad = true
				break
			}
			its.b = its.b[size:]
			v.N = int(n)
		case api.Str:
			v.S = its.text()
		}
		row = append(row, v)
	}
	r.bad = r.bad || its.bad
	return row
}

// recordOf is the record of which b is what bytesOf tells, and whether there is one.
func recordOf(b []byte) (record.Record, bool) {
	s := &reader{b: b}
	r := record.Record{Kind: s.number()}
	switch r.Kind {
	case 1:
		r.Table.Name = s.text()
		for range s.count(mostColumns) {
			name := s.text()
			r.Table.Columns = append(r.Table.Columns, api.Column{Name: name, Kind: s.number()})
		}
	case 2:
		r.Rollup.Name = s.text()
		r.Rollup.Table = s.text()
		for range s.count(mostColumns) {
			r.Rollup.Dims = append(r.Rollup.Dims, s.text())
		}
		for range s.count(mostMeasures) {
			kind := s.number()
			r.Rollup.Measures = append(r.Rollup.Measures, api.Measure{Kind: kind, Column: s.text()})
		}
	case 3:
		r.Name = s.text()
		for range s.count(mostRows) {
			r.Rows = append(r.Rows, s.row())
		}
	}
	if s.bad || !mayBe(r) || len(b) > mostBytes || !bytes.Equal(bytesOf(r), b) {
		return record.Record{}, false
	}
	return r, true
}

func framed(b []byte) []byte {
	f := binary.LittleEndian.AppendUint32(nil, uint32(len(b)))
	f = append(f, b...)
	return binary.LittleEndian.AppendUint32(f, crc32.ChecksumIEEE(f))
}

func beginOf(id uint64) []byte { return framed(binary.AppendUvarint([]byte{0}, id)) }

// scanned is a log's records and its bytes, gone through a second time.
func scanned(b []byte, id uint64) ([]record.Record, int, bool) {
	begin := beginOf(id)
	if !bytes.HasPrefix(b, begin) {
		return nil, 0, false
	}
	var l []record.Record
	at := len(begin)
	for len(b)-at >= 8 {
		n := int(binary.LittleEndian.Uint32(b[at:]))
		if n > mostBytes || len(b)-at < n+8 || !bytes.Equal(framed(b[at+4:at+4+n]), b[at:at+n+8]) {
			break
		}
		r, ok := recordOf(b[at+4 : at+4+n])
		if !ok {
			break
		}
		l = append(l, r)
		at += n + 8
	}
	return l, at, true
}

// Records to go through.

func columns(n int) []api.Column {
	var l []api.Column
	for i := range n {
		l = append(l, api.Column{Name: strings.Repeat("c", i), Kind: i})
	}
	return l
}

func dims(n int) []string {
	var l []string
	for i := range n {
		l = append(l, fmt.Sprint("d", i))
	}
	return l
}

func measures(n int) []api.Measure {
	var l []api.Measure
	for i := range n {
		l = append(l, api.Measure{Kind: i, Column: fmt.Sprint("m", i)})
	}
	return l
}

// rows: so many, of so many values that go through all that are good.
func rows(n, columns int) [][]api.Value {
	l := make([][]api.Value, n)
	good := goodValues()
	for i := range l {
		for j := range columns {
			l[i] = append(l[i], good[(i*columns+j)%len(good)])
		}
	}
	return l
}

func tableOf(name string, columns ...api.Column) record.Record {
	return record.Record{Kind: record.Table, Table: api.Table{Name: name, Columns: columns}}
}

func rollupOf(name, table string, dims []string, measures []api.Measure) record.Record {
	return record.Record{Kind: record.Rollup, Rollup: api.Rollup{Name: name, Table: table, Dims: dims, Measures: measures}}
}

func batchOf(name string, rows ...[]api.Value) record.Record {
	return record.Record{Kind: record.Batch, Name: name, Rows: rows}
}

func goodValues() []api.Value {
	return []api.Value{
		{}, integer(0), integer(1), integer(-1), integer(63), integer(64), integer(-65), integer(minusZero), integer(math.MaxInt), integer(nan + 1),
		float(0), float(1), float(nan), float(int(math.Float64bits(2.5))), float(int(math.Float64bits(math.Inf(1)))), float(math.MinInt + 1), float(math.MinInt + 0x7ff0000000000000),
		str(""), str("a"), str("\x00"), str("\xff\xfe"), str("é'"), str(strings.Repeat("y", 63)), str(strings.Repeat("x", 64)), truth(0), truth(1),
	}
}

func badValues() []api.Value {
	l := []api.Value{
		{N: 1}, {N: -1}, {S: "a"}, {Kind: api.Int, S: "a"}, {Kind: api.Float, S: "a"}, {Kind: api.Str, N: 1}, {Kind: api.Str, N: 1, S: "a"}, {Kind: api.Bool, S: "a"}, {Kind: api.Bool, N: 1, S: "a"},
		float(minusZero), float(nan + 1), float(-1), float(0x7ff0000000000001), str(strings.Repeat("x", 65)), str(strings.Repeat("x", 70000)), truth(2), truth(-1), truth(math.MinInt), truth(256),
	}
	for _, kind := range []int{math.MinInt, -1, 5, 6, 256, 257, 1<<32 + 1, math.MaxInt} {
		l = append(l, api.Value{Kind: kind}, api.Value{Kind: kind, N: 1}, api.Value{Kind: kind, S: "a"})
	}
	return l
}

var strangeKinds = []int{math.MinInt, -300, -1, 0, 1, 2, 3, 4, 5, 127, 128, 255, 256, 1 << 32, 1<<32 + 1, math.MaxInt}

var strangeTexts = []string{"", "a", "t", "\x00", "\xff", "é", "a b", "'", "SELECT", "1", strings.Repeat("n", 64), strings.Repeat("n", 65), strings.Repeat("n", 127), strings.Repeat("n", 128), strings.Repeat("n", 20000)}

func goodRecords() []record.Record {
	var l []record.Record
	for n := range mostColumns + 1 {
		if n > 0 {
			l = append(l, tableOf("t", columns(n)...), batchOf("t", rows(1, n)...), batchOf("t", rows(3, n)...), batchOf("t", rows(mostRows, n)...))
		}
		l = append(l, rollupOf("r", "t", dims(n), nil), rollupOf("r", "t", dims(n), measures(3)))
	}
	for n := range mostMeasures + 1 {
		l = append(l, rollupOf("r", "t", nil, measures(n)), rollupOf("r", "t", dims(2), measures(n)))
	}
	for _, n := range []int{1, 2, 127, 128, 199, 200} {
		l = append(l, batchOf("u", rows(n, 2)...))
	}
	for _, s := range strangeTexts {
		l = append(l, tableOf(s, columns(2)...), tableOf("t", api.Column{Name: s}, api.Column{Kind: 2}), rollupOf(s, "t", nil, nil), rollupOf("r", s, nil, nil), rollupOf(s, s, []string{s, "", s}, []api.Measure{{Kind: 1, Column: s}, {Column: s}}), batchOf(s, rows(2, 2)...))
	}
	for _, kind := range strangeKinds {
		l = append(l, tableOf("t", api.Column{Name: "a", Kind: kind}), tableOf("", api.Column{Kind: 1}, api.Column{Kind: kind}), rollupOf("r", "t", dims(1), []api.Measure{{Kind: kind, Column: "a"}, {Kind: kind}}))
	}
	for _, v := range goodValues() {
		l = append(l, batchOf("", []api.Value{v}), batchOf("t", []api.Value{{}, v, {}}, []api.Value{v, {}, v}))
	}
	return l
}

// wrongRecords: each is wrong in one place alone.
func wrongRecords() []record.Record {
	l := []record.Record{{}, {Kind: 1}, {Kind: 3}, {Name: "t"}, {Rows: rows(1, 1)}, {Kind: 3, Rows: [][]api.Value{}}, {Kind: 1, Table: api.Table{Columns: []api.Column{}}}, tableOf("t"), batchOf("t")}
	l = append(l, tableOf("t", columns(9)...), tableOf("t", columns(100)...))
	l = append(l, rollupOf("r", "t", dims(9), nil), rollupOf("r", "t", nil, measures(17)), rollupOf("r", "t", dims(8), measures(17)), rollupOf("r", "t", dims(9), measures(16)), rollupOf("r", "t", dims(100), measures(300)))
	l = append(l, batchOf("t", rows(201, 1)...), batchOf("t", rows(1000, 8)...), batchOf("t", rows(1, 9)...), batchOf("t", rows(3, 9)...), batchOf("t", nil), batchOf("t", []api.Value{}), batchOf("t", nil, nil), batchOf("t", rows(200, 100)...))
	for _, other := range [][]api.Value{nil, rows(1, 1)[0], rows(1, 3)[0]} { // rows of another length
		two := rows(3, 2)
		l = append(l, batchOf("t", two[0], other), batchOf("t", other, two[0]), batchOf("t", two[0], two[1], other, two[2]), batchOf("t", two[0], two[1], two[2], other))
	}
	for _, v := range badValues() {
		for i := range 3 {
			row := make([]api.Value, 3)
			row[i] = v
			l = append(l, batchOf("t", row), batchOf("t", row, rows(1, 3)[0]), batchOf("t", rows(1, 3)[0], rows(1, 3)[0], row))
		}
	}
	table, rollup, batch := tableOf("t", columns(2)...), rollupOf("r", "t", dims(1), measures(2)), batchOf("t", rows(2, 2)...)
	for _, r := range []record.Record{table, rollup, batch, tableOf("", api.Column{}), rollupOf("", "", nil, nil), batchOf("", []api.Value{{}})} {
		for _, kind := range strangeKinds { // another kind than what there is
			its := r
			its.Kind = kind
			if kind != r.Kind {
				l = append(l, its)
			}
		}
		for _, spoil := range []func(*record.Record){
			func(r *record.Record) { r.Table.Name = "x" }, func(r *record.Record) { r.Table.Columns = columns(1) }, func(r *record.Record) { r.Table.Columns = make([]api.Column, 1) },
			func(r *record.Record) { r.Rollup.Name = "x" }, func(r *record.Record) { r.Rollup.Table = "x" }, func(r *record.Record) { r.Rollup.Dims = []string{""} }, func(r *record.Record) { r.Rollup.Measures = make([]api.Measure, 1) },
			func(r *record.Record) { r.Name = "x" }, func(r *record.Record) { r.Rows = rows(1, 1) }, func(r *record.Record) { r.Rows = make([][]api.Value, 1) },
		} {
			its := r
			spoil(&its)
			if !mayBe(its) { // what its kind names may be another one
				l = append(l, its)
			}
		}
	}
	return slices.DeleteFunc(l, func(r record.Record) bool { // a Rollup may be empty, whatever its list
		return r.Kind == 2 && say(r) == say(rollupOf("", "", nil, nil))
	})
}

func TestP13_1Good(t *testing.T) {
	for _, r := range goodRecords() {
		if !mayBe(r) {
			t.Errorf("the test's own %s may not be", short(say(r)))
		}
		if !record.Good(r) {
			t.Errorf("Good(%s): false", short(say(r)))
		}
	}
	wrong := wrongRecords()
	for _, r := range wrong {
		if mayBe(r) {
			t.Errorf("the test's own %s may be", short(say(r)))
		}
		if record.Good(r) {
			t.Errorf("Good(%s): true", short(say(r)))
		}
	}
	if len(wrong) < 200 {
		t.Errorf("%d wrong records", len(wrong))
	}
}

func TestP13_1GoodEmptyLists(t *testing.T) { // nil and empty lists are the same
	for _, r := range []record.Record{tableOf("t", columns(1)...), rollupOf("r", "t", nil, nil), batchOf("t", rows(1, 1)...)} {
		its := r
		if its.Kind != record.Table {
			its.Table.Columns = []api.Column{}
		}
		if its.Kind != record.Batch {
			its.Rows = [][]api.Value{}
		}
		its.Rollup.Dims, its.Rollup.Measures = make([]string, 0, 3), []api.Measure{}
		same(t, "Good of "+say(its), record.Good(its), true)
		checkBytes(t, its, bytesOf(r))
	}
}

func TestP13_1GoodKinds(t *testing.T) { // all kinds with all that there may be beside them
	same(t, "kinds", fmt.Sprint(record.Table, record.Rollup, record.Batch), "1 2 3")
	for kind := -2; kind < 300; kind++ {
		for set := range 128 {
			r := record.Record{Kind: kind}
			for i, put := range []func(){
				func() { r.Table.Name = "t" }, func() { r.Table.Columns = columns(1) }, func() { r.Rollup.Name = "r" }, func() { r.Rollup.Table = "t" },
				func() { r.Rollup.Dims = dims(1) }, func() { r.Rollup.Measures = measures(1) }, func() { r.Name = "n" },
			} {
				if set>>i&1 == 1 {
					put()
				}
			}
			same(t, say(r), record.Good(r), mayBe(r))
			r.Rows = rows(1, 1)
			same(t, say(r), record.Good(r), mayBe(r))
		}
	}
}

func checkBytes(t *testing.T, r record.Record, want []byte) {
	t.Helper()
	b, e := record.Bytes(r)
	if e != api.OK || !bytes.Equal(b, want) {
		t.Errorf("Bytes(%s): %s %d, want %s", short(say(r)), short(fmt.Sprint(b)), e, short(fmt.Sprint(want)))
	}
}

func noBytes(t *testing.T, r record.Record, want api.Errno) {
	t.Helper()
	if b, e := record.Bytes(r); e != want || len(b) != 0 {
		t.Errorf("Bytes(%s): %d bytes, %d, want %d", short(say(r)), len(b), e, want)
	}
}

func TestP13_1BytesByHand(t *testing.T) {
	for _, c := range []struct {
		r    record.Record
		want []byte
	}{
		{tableOf("ab", api.Column{Name: "x", Kind: 1}, api.Column{Name: "", Kind: 300}), []byte{1, 2, 'a', 'b', 2, 1, 'x', 1, 0, 172, 2}},
		{tableOf("", api.Column{Kind: -1}), []byte{1, 0, 1, 0, 255, 255, 255, 255, 255, 255, 255, 255, 255, 1}},
		{rollupOf("r", "ta", []string{"d", ""}, []api.Measure{{Kind: 7, Column: "m"}}), []byte{2, 1, 'r', 2, 't', 'a', 2, 1, 'd', 0, 1, 7, 1, 'm'}},
		{rollupOf("", "", nil, nil), []byte{2, 0, 0, 0, 0}},
		{rollupOf("", "", nil, []api.Measure{{Kind: -2}}), []byte{2, 0, 0, 0, 1, 254, 255, 255, 255, 255, 255, 255, 255, 255, 1, 0}},
		{batchOf("t", []api.Value{{}, integer(-1)}, []api.Value{str("ab"), truth(1)}), []byte{3, 1, 't', 2, 4, 2, 0, 1, 1, 7, 2, 3, 2, 'a', 'b', 4, 2}},
		{batchOf("", []api.Value{{}}), []byte{3, 0, 1, 2, 1, 0}},
	} {
		checkBytes(t, c.r, c.want)
		checkLoad(t, c.want, c.r)
	}
}

func TestP13_1Bytes(t *testing.T) {
	for _, r := range goodRecords() {
		checkBytes(t, r, bytesOf(r))
	}
	for _, r := range wrongRecords() {
		noBytes(t, r, api.ErrArg)
	}
}

// longs are records that have so many bytes more than others.
func longs(more int) []record.Record {
	s := strings.Repeat("z", more)
	return []record.Record{
		tableOf(s, api.Column{Name: "a"}), tableOf("t", api.Column{Name: "a"}, api.Column{Name: s, Kind: 1}),
		rollupOf(s, "t", dims(1), measures(1)), rollupOf("r", s, nil, nil), rollupOf("r", "t", []string{"a", s}, nil), rollupOf("r", "t", nil, []api.Measure{{Column: s}, {}}),
		batchOf(s, rows(200, 8)...), batchOf(s, []api.Value{{}}),
	}
}

func TestP13_1BytesFull(t *testing.T) {
	for i, r := range longs(100000) {
		room := 100000 + mostBytes - len(bytesOf(r)) // of as many digits in what counts it
		full := longs(room)[i]
		same(t, "its bytes", len(bytesOf(full)), mostBytes)
		checkBytes(t, full, bytesOf(full))
		checkLoad(t, bytesOf(full), full)
		for _, more := range []int{1, 2, 100, 300000} {
			its := longs(room + more)[i]
			noBytes(t, its, api.ErrFull)
			noRecord(t, "too long", bytesOf(its))
			same(t, "Good", record.Good(its), true)
		}
	}
}

func TestP13_1BytesOrder(t *testing.T) { // not good comes ahead of too long
	long := strings.Repeat("z", 300000)
	for _, r := range []record.Record{tableOf(long), tableOf(long, columns(9)...), rollupOf(long, "", dims(9), nil), batchOf(long), batchOf(long, []api.Value{truth(2)}), {Kind: 4, Name: long}, {Name: long}, {Kind: 1, Name: long, Table: api.Table{Columns: columns(1)}}} {
		noBytes(t, r, api.ErrArg)
	}
}

func checkLoad(t *testing.T, b []byte, want record.Record) {
	t.Helper()
	if r, e := record.Load(b); e != api.OK || say(r) != say(want) {
		t.Errorf("Load(%s): %s %d, want %s", short(fmt.Sprint(b)), short(say(r)), e, short(say(want)))
	}
}

func noRecord(t *testing.T, what string, b []byte) {
	t.Helper()
	if r, e := record.Load(b); e != api.ErrCorrupt || !zero(r) {
		t.Errorf("Load, %s, of %s: %s %d, want %d", what, short(fmt.Sprint(b)), short(say(r)), e, api.ErrCorrupt)
	}
}

func zero(r record.Record) bool { return say(r) == say(record.Record{}) }

// loads holds Load against the plain reader; it tells whether there is a record.
func loads(t *testing.T, what string, b []byte) bool {
	t.Helper()
	want, ok := recordOf(b)
	if ok {
		checkLoad(t, b, want)
	} else {
		noRecord(t, what, b)
	}
	return ok
}

func TestP13_1LoadOfAllSmall(t *testing.T) {
	marks := []byte{0, 1, 2, 3, 4, 5, 128}
	found := map[byte]int{}
	var try func(b []byte)
	try = func(b []byte) {
		if loads(t, "small", b) {
			found[b[0]]++
		}
		if len(b) < 7 {
			for _, c := range marks {
				try(append(b, c))
			}
		}
	}
	try(nil)
	for _, kind := range []byte{1, 2, 3} {
		if found[kind] < 20 {
			t.Errorf("%d records of kind %d among the small ones", found[kind], kind)
		}
	}
	for a := range 256 {
		for b := range 256 {
			loads(t, "two bytes", []byte{byte(a), byte(b)})
		}
	}
}

// small are good records of few bytes, of all kinds.
func small() []record.Record {
	return slices.DeleteFunc(goodRecords(), func(r record.Record) bool { return len(bytesOf(r)) > 60 })
}

func TestP13_1LoadOfOthers(t *testing.T) { // with a byte changed, taken out or put in
	for i, r := range small() {
		b := bytesOf(r)
		for at := range b {
			for c := range 256 {
				if i%4 > 0 && c >= 8 && c != 127 && c != 128 && c != 255 {
					continue
				}
				other := slices.Clone(b)
				other[at] = byte(c)
				loads(t, "a byte changed", other)
			}
			loads(t, "a beginning", b[:at])
			loads(t, "a byte less", slices.Delete(slices.Clone(b), at, at+1))
			for _, c := range []byte{0, 1, 2, 3, 127, 128, 255} {
				loads(t, "a byte more", slices.Insert(slices.Clone(b), at, c))
			}
		}
		for c := range 256 {
			noRecord(t, "a byte behind", append(slices.Clone(b), byte(c)))
		}
		noRecord(t, "twice", append(slices.Clone(b), b...))
	}
}

func TestP13_1LoadOfWrong(t *testing.T) { // the bytes that a record would have that is not good
	for _, r := range wrongRecords() {
		loads(t, "not good", bytesOf(r))
	}
	for _, kind := range strangeKinds {
		w := &writer{}
		w.numbers(kind)
		noRecord(t, "a kind alone", w.b)
		for _, r := range small()[:10] {
			if kind != r.Kind {
				loads(t, "another kind", append(slices.Clone(w.b), bytesOf(r)[1:]...))
			}
		}
	}
}

func TestP13_1LoadOfCounts(t *testing.T) { // which there are too many of, or too few
	text := func(l ...string) []byte {
		w := &writer{}
		w.texts(l...)
		return w.b
	}
	columns, names, measures, row := bytes.Repeat([]byte{0, 1}, 300), make([]byte, 300), make([]byte, 600), bytes.Repeat([]byte{2, 1, 0}, 300)
	for _, n := range append([]int{6, 7, 8, 9, 15, 16, 17, 199, 200, 201, 300}, strangeKinds...) {
		for _, more := range []int{-1, 0, 1} {
			size := max(min(max(n, 0), 299)+more, 0)
			put := func(ahead []byte, b []byte, behind ...byte) {
				w := &writer{b: slices.Clone(ahead)}
				w.numbers(n)
				loads(t, "a count", append(append(w.b, b...), behind...))
			}
			put(append([]byte{1}, text("t")...), columns[:2*size])
			put(append([]byte{2}, text("r", "t")...), names[:size], 0)
			put(append(append([]byte{2}, text("r", "t")...), 0), measures[:2*size])
			put(append([]byte{3}, text("t")...), row[:3*size])
			put([]byte{1}, names[:size])                   // of a text
			put([]byte{3, 0, 1}, []byte{1, 0})             // of a row
			put([]byte{3, 0, 1, byte(size)}, names[:size]) // of values
		}
	}
	for _, wrong := range [][]byte{{128, 0}, {129, 0}, {255}, {255, 255, 255, 255, 255, 255, 255, 255, 255, 2}, {128, 128, 128, 128, 128, 128, 128, 128, 128, 128, 1}} { // numbers that are none, or too long
		for _, r := range small() {
			b := bytesOf(r)
			for at := range b {
				loads(t, "a number", slices.Concat(b[:at], wrong, b[at+1:]))
				loads(t, "a number", slices.Concat(b[:at], wrong, b[at:]))
			}
		}
	}
	same(t, "a long number", loads(t, "a kind", []byte{1, 0, 1, 0, 255, 255, 255, 255, 255, 255, 255, 255, 255, 1}), true)
}

func TestP13_1LoadByChance(t *testing.T) {
	from := rand.New(rand.NewSource(13))
	l := small()
	for range 200000 {
		b := slices.Clone(bytesOf(l[from.Intn(len(l))]))
		for range 1 + from.Intn(3) {
			b[from.Intn(len(b))] = byte([]int{0, 1, 2, 3, 4, 128, from.Intn(256)}[from.Intn(7)])
		}
		loads(t, "by chance", b)
	}
}

var ids = []uint64{0, 1, 7, 8, 127, 128, 129, 255, 300, 1 << 14, 1<<32 - 1, 1 << 32, 1<<40 + 5, 1<<63 - 1, 1 << 63, math.MaxUint64}

func TestP13_2Begin(t *testing.T) {
	same(t, "Begin(7)", record.Begin(7)[:6], "[2 0 0 0 0 7]")
	same(t, "Begin(300)", record.Begin(300)[:7], "[3 0 0 0 0 172 2]")
	for _, id := range ids {
		same(t, "Begin", record.Begin(id), beginOf(id))
	}
	for id := range uint64(70000) {
		if !bytes.Equal(record.Begin(id), beginOf(id)) {
			t.Fatalf("Begin(%d)", id)
		}
	}
}

// scans holds Scan against the plain one.
func scans(t *testing.T, what string, b []byte, id uint64) int {
	t.Helper()
	l, n, ok := record.Scan(b, id)
	want, wantN, wantOk := scanned(b, id)
	if sayAll(l) != sayAll(want) || n != wantN || ok != wantOk {
		t.Errorf("Scan, %s, of %s, %d: %s %d %v, want %s %d %v", what, short(fmt.Sprint(b)), id, short(sayAll(l)), n, ok, short(sayAll(want)), wantN, wantOk)
	}
	return len(l)
}

func logOf(id uint64, l ...record.Record) []byte {
	b := beginOf(id)
	for _, r := range l {
		b = append(b, framed(bytesOf(r))...)
	}
	return b
}

func TestP13_2ScanOfBegins(t *testing.T) {
	l := small()
	for _, id := range ids {
		b := record.Begin(id)
		its, n, ok := record.Scan(b, id)
		same(t, "Scan of Begin", fmt.Sprint(len(its), n, ok), fmt.Sprint(0, len(b), true))
		for _, other := range ids {
			scans(t, "another id", b, other)
			scans(t, "another id", logOf(id, l[0]), other)
		}
		for cut := range b {
			its, n, ok := record.Scan(b[:cut], id)
			same(t, "Scan of a beginning", fmt.Sprint(len(its), n, ok), "0 0 false")
		}
		for at := range b {
			for bit := range 8 {
				turned := logOf(id, l[:2]...)
				turned[at] ^= 1 << bit
				its, n, ok := record.Scan(turned, id)
				same(t, "Scan of a turned beginning", fmt.Sprint(len(its), n, ok), "0 0 false")
			}
		}
	}
	log := logOf(7, l[0])
	for _, wrong := range [][]byte{nil, {}, {0}, log[1:], framed(nil), framed([]byte{0}), framed([]byte{7}), framed([]byte{1, 7}), framed([]byte{0, 7, 0}), framed([]byte{0, 135, 0}), framed([]byte{0, 0, 7}), {0, 7}, log[10:], framed(bytesOf(l[0]))} {
		for _, behind := range [][]byte{nil, log, log[10:]} {
			its, n, ok := record.Scan(append(slices.Clone(wrong), behind...), 7)
			same(t, "Scan without a beginning", fmt.Sprint(len(its), n, ok), map[bool]string{false: "0 0 false", true: fmt.Sprint(1, len(log), true)}[len(wrong) == 0 && len(behind) == len(log)])
		}
	}
}

func TestP13_2Scan(t *testing.T) {
	all := goodRecords()
	same(t, "all records", scans(t, "all", logOf(7, all...), 7), len(all))
	for i := range all {
		same(t, "one record", scans(t, "one", logOf(7, all[i]), 7), 1)
	}
	one := small()[0]
	long := tableOf(strings.Repeat("z", mostBytes-5-3+2), api.Column{Kind: 1})
	for len(bytesOf(long)) > mostBytes {
		long.Table.Name = long.Table.Name[1:]
	}
	same(t, "of full frames", scans(t, "full", logOf(0, long, one, long, long), 0), 4)
	same(t, "many records", scans(t, "many", logOf(0, slices.Repeat([]record.Record{one}, 5000)...), 0), 5000)
}

func TestP13_2ScanStops(t *testing.T) { // at what is no record's frame, whatever stands behind it
	l := small()
	good := framed(bytesOf(l[0]))
	var wrong [][]byte
	for _, content := range [][]byte{nil, {0}, {0, 7}, {1}, {4}, append(bytesOf(l[1]), 0), bytesOf(l[1])[1:], bytesOf(tableOf("t")), bytesOf(batchOf("t")), bytesOf(batchOf("t", rows(201, 1)...)), bytesOf(rollupOf("r", "t", dims(9), nil)), {1, 0, 1, 0, 128, 0}, bytes.Repeat([]byte{1}, mostBytes)} {
		wrong = append(wrong, framed(content))
	}
	tooLong := framed(bytesOf(tableOf(strings.Repeat("z", mostBytes), api.Column{})))
	wrong = append(wrong, tooLong, bytesOf(l[0]), []byte{0}, []byte{0, 0, 0, 0}, good[:len(good)-1], good[1:], beginOf(7), logOf(7, l[0]))
	for i := range good {
		turned := slices.Clone(good)
		turned[i] ^= 4
		wrong = append(wrong, turned)
	}
	for _, w := range wrong {
		for n := range 4 {
			log := logOf(7, l[:n]...)
			for _, behind := range [][]byte{nil, good, {0}} {
				its, size, ok := record.Scan(slices.Concat(log, w, behind), 7)
				same(t, "Scan up to "+short(fmt.Sprint(w)), fmt.Sprint(sayAll(its), size, ok), fmt.Sprint(sayAll(l[:n]), len(log), true))
			}
		}
	}
}

func TestP13_3LoadUndoesBytes(t *testing.T) {
	for _, r := range goodRecords() {
		b, e := record.Bytes(r)
		same(t, "Bytes", e, api.OK)
		checkLoad(t, b, r)
	}
}

func TestP13_3Cuts(t *testing.T) { // of a log cut anywhere the records that are whole are told
	l := append(small()[:40], goodRecords()[3], batchOf("t", rows(20, 8)...), small()[0])
	log := logOf(300, l...)
	ends := []int{len(beginOf(300))}
	for _, r := range l {
		ends = append(ends, ends[len(ends)-1]+len(bytesOf(r))+8)
	}
	for cut := range len(log) + 1 {
		if cut > 3000 && cut%7 > 0 && !slices.Contains(ends, cut) && !slices.Contains(ends, cut+1) {
			continue
		}
		its, n, ok := record.Scan(log[:cut:cut], 300)
		if cut < ends[0] {
			same(t, "cut in its beginning", fmt.Sprint(len(its), n, ok), "0 0 false")
			continue
		}
		whole := 0
		for ends[whole+1:] != nil && whole+1 < len(ends) && ends[whole+1] <= cut {
			whole++
		}
		if n != ends[whole] || !ok || sayAll(its) != sayAll(l[:whole]) {
			t.Errorf("cut at %d: %d records, %d bytes, %v; want %d, %d", cut, len(its), n, ok, whole, ends[whole])
		}
		its, n, ok = record.Scan(log[:cut], 300) // what stands in the room behind is not looked at
		if n != ends[whole] || !ok || len(its) != whole {
			t.Errorf("cut at %d, with more behind it: %d records, %d bytes, %v; want %d, %d", cut, len(its), n, ok, whole, ends[whole])
		}
	}
}

func TestP13_3Turned(t *testing.T) { // a bit that was turned ends the log ahead of its record
	l := small()[:12]
	log := logOf(7, l...)
	for at := len(beginOf(7)); at < len(log); at++ {
		for bit := range 8 {
			turned := slices.Clone(log)
			turned[at] ^= 1 << bit
			if n := scans(t, "a turned bit", turned, 7); n >= len(l) {
				t.Errorf("bit %d of byte %d turned: %d records", bit, at, n)
			}
		}
	}
}

// Memory.

// roomy is the record with room behind its lists, which is marked.
func roomy(r record.Record) record.Record {
	r.Table.Columns = append(slices.Clone(r.Table.Columns), api.Column{Name: "behind", Kind: 77})[:len(r.Table.Columns)]
	r.Rollup.Dims = append(slices.Clone(r.Rollup.Dims), "behind")[:len(r.Rollup.Dims)]
	r.Rollup.Measures = append(slices.Clone(r.Rollup.Measures), api.Measure{Kind: 77, Column: "behind"})[:len(r.Rollup.Measures)]
	rows := append(slices.Clone(r.Rows), []api.Value{str("behind")})
	for i, row := range rows[:len(rows)-1] {
		rows[i] = append(slices.Clone(row), str("behind"))[:len(row)]
	}
	r.Rows = rows[:len(rows)-1]
	return r
}

// sayRoom says what stands in the record's lists and behind them.
func sayRoom(r record.Record) string {
	r.Table.Columns = r.Table.Columns[:len(r.Table.Columns)+1]
	r.Rollup.Dims = r.Rollup.Dims[:len(r.Rollup.Dims)+1]
	r.Rollup.Measures = r.Rollup.Measures[:len(r.Rollup.Measures)+1]
	rows := slices.Clone(r.Rows[:len(r.Rows)+1])
	for i, row := range rows[:len(rows)-1] {
		rows[i] = row[:len(row)+1]
	}
	r.Rows = rows
	return say(r)
}

func TestR3Arguments(t *testing.T) {
	for _, r := range append(goodRecords(), wrongRecords()...) {
		its := roomy(r)
		ahead := sayRoom(its)
		record.Good(its)
		record.Bytes(its)
		if sayRoom(its) != ahead {
			t.Errorf("%s: changed", short(ahead))
		}
		b := append(bytesOf(r), 1, 2, 3, 4, 5, 6, 7, 8, 9)
		log := append(logOf(7, r), 1, 2, 3, 4, 5, 6, 7, 8, 9)
		for _, of := range [][]byte{b, log} {
			copied := slices.Clone(of)
			for _, cut := range []int{0, 4, 9, len(of) - 9, len(of)} {
				record.Load(of[:cut])
				record.Scan(of[:cut], 7)
			}
			if !bytes.Equal(of, copied) {
				t.Errorf("bytes of %s: changed", short(say(r)))
			}
		}
	}
}

// spoil writes over all of a record's lists, and over their room.
func spoil(r record.Record) {
	fill(r.Table.Columns, api.Column{Name: "spoilt", Kind: 99})
	fill(r.Rollup.Dims, "spoilt")
	fill(r.Rollup.Measures, api.Measure{Kind: 99, Column: "spoilt"})
	for _, row := range r.Rows {
		fill(row, str("spoilt"))
	}
	fill(r.Rows, nil)
}

func fill[T any](l []T, v T) {
	l = l[:cap(l)]
	for i := range l {
		l[i] = v
	}
}

func TestR3Answers(t *testing.T) {
	for _, r := range goodRecords() {
		want := say(r)
		b, _ := record.Bytes(r)
		copied := slices.Clone(b)
		one, _ := record.Load(b)
		fill(b, 255) // what was loaded is not kept
		same(t, "bytes changed behind Load", say(one) == want, true)
		two, _ := record.Load(copied)
		spoil(one)
		same(t, "another answer of Load", say(two) == want, true)
		again, _ := record.Bytes(r)
		fill(again, 255)
		checkBytes(t, r, copied)

		log := logOf(7, r, r, r)
		l, _, _ := record.Scan(log, 7)
		fill(log, 255)
		spoil(l[0]) // no two lists of one answer share any
		same(t, "a log's records", sayAll(l[1:]) == want+"\n"+want+"\n", true)
		spoil(l[2])
		same(t, "a log's records", say(l[1]) == want, true)
	}
	one := record.Begin(7)
	fill(one, 255)
	same(t, "Begin", record.Begin(7), beginOf(7))
	r, _ := record.Load(bytesOf(batchOf("t", rows(20, 3)...)))
	for i, row := range r.Rows { // rows share no room
		_ = append(row, str("more"))
		fill(row[len(row):], str("more"))
		for j, other := range r.Rows {
			if i != j && fmt.Sprint(other) != fmt.Sprint(rows(20, 3)[j]) {
				t.Errorf("row %d was changed by row %d", j, i)
			}
		}
	}
}

// turning is a text whose bytes can be changed, and what changes them.
func turning(s string) (string, func()) {
	b := []byte(s)
	return unsafe.String(unsafe.SliceData(b), len(b)), func() {
		for i := range b {
			b[i] = '#'
		}
	}
}

func TestR3Texts(t *testing.T) { // Bytes keeps no text
	s, turn := turning("text")
	table, rollup, batch := tableOf(s, api.Column{Name: s}), rollupOf(s, s, []string{s}, []api.Measure{{Column: s}}), batchOf(s, []api.Value{str(s)})
	var told [][]byte
	for _, r := range []record.Record{table, rollup, batch} {
		b, _ := record.Bytes(r)
		told = append(told, b)
	}
	turn()
	for _, b := range told {
		r, e := record.Load(b)
		if e != api.OK || strings.Contains(say(r), "#") || !strings.Contains(say(r), "text") {
			t.Errorf("texts changed behind Bytes: %s %d", say(r), e)
		}
	}
}

func TestR1Wild(t *testing.T) {
	from := rand.New(rand.NewSource(1))
	for range 100000 {
		b := make([]byte, from.Intn(30))
		from.Read(b)
		if len(b) > 0 && from.Intn(2) == 0 {
			b[0] &= 3
		}
		loads(t, "wild", b)
		scans(t, "wild", b, 0)
		scans(t, "wild", append(beginOf(9), b...), 9)
		scans(t, "wild", append(beginOf(9), framed(b)...), 9)
	}
	for _, b := range [][]byte{nil, {}, bytes.Repeat([]byte{255}, 1<<20), bytes.Repeat([]byte{128}, 1<<20), make([]byte, 1<<20), bytes.Repeat([]byte{1}, 1<<20), bytes.Repeat([]byte{3}, 1<<20)} {
		noRecord(t, "of no kind", b)
		scans(t, "of no kind", b, 0)
		scans(t, "of no kind", append(beginOf(0), b...), 0)
	}
}

func TestR4Again(t *testing.T) {
	all := goodRecords()
	log := logOf(5, all...)
	first, n, _ := record.Scan(log, 5)
	for range 3 {
		l, again, _ := record.Scan(log, 5)
		same(t, "Scan again", sayAll(l) == sayAll(first) && again == n, true)
	}
}
