package column_test

import (
	"bytes"
	"encoding/binary"
	"fmt"
	"math"
	"math/rand"
	"slices"
	"strings"
	"testing"

	"talus/api"
	"talus/column"
)

const (
	null   = -1 // a row of the lists of rows below that is null
	most   = 1000
	lastId = 511
)

func same(t *testing.T, what string, got, want any) {
	t.Helper()
	if a, b := fmt.Sprint(got), fmt.Sprint(want); a != b {
		t.Errorf("%s: %s, want %s", what, a, b)
	}
}

// vector is of rows, each an id or a null.
func vector(rows ...int) column.Vector {
	v := column.Vector{Null: make([]bool, len(rows)), Ids: make([]int, len(rows))}
	for i, id := range rows {
		if id == null {
			v.Null[i] = true
		} else {
			v.Ids[i] = id
		}
	}
	return v
}

// rowsOf is the other way round.
func rowsOf(v column.Vector) []int {
	l := slices.Clone(v.Ids)
	for i, is := range v.Null {
		if is {
			l[i] = null
		}
	}
	return l
}

func equal(a, b column.Vector) bool {
	return slices.Equal(a.Null, b.Null) && slices.Equal(a.Ids, b.Ids)
}

func empty(v column.Vector) bool { return len(v.Null) == 0 && len(v.Ids) == 0 }

func ramp(n, step, modulo int) []int {
	l := make([]int, n)
	for i := range l {
		l[i] = i * step % modulo
	}
	return l
}

// bitsOf says again what Pack tells, by a text of bits.
func bitsOf(width int, l []int) []byte {
	var text strings.Builder
	for _, n := range l {
		for bit := range width {
			text.WriteByte('0' + byte(n>>bit&1))
		}
	}
	for text.Len()%8 > 0 {
		text.WriteByte('0')
	}
	var b []byte
	for s := text.String(); s != ""; s = s[8:] {
		c := byte(0)
		for bit := range 8 {
			c += (s[bit] - '0') << bit
		}
		b = append(b, c)
	}
	return b
}

func modelPack(ids []int) []byte {
	width := 0
	for len(ids) > 0 && slices.Max(ids) >= 1<<width {
		width++
	}
	return append([]byte{byte(width)}, bitsOf(width, ids)...)
}

func modelRuns(ids []int) []byte {
	var b []byte
	for len(ids) > 0 {
		n := 1
		for n < len(ids) && ids[n] == ids[0] {
			n++
		}
		b = binary.AppendUvarint(b, uint64(ids[0]))
		b = binary.AppendUvarint(b, uint64(n))
		ids = ids[n:]
	}
	return b
}

func modelDeltas(ids []int) []byte {
	var b []byte
	ahead := 0
	for _, id := range ids {
		b = binary.AppendVarint(b, int64(id-ahead))
		ahead = id
	}
	return b
}

func modelNulls(v column.Vector) []byte {
	l := make([]int, len(v.Null))
	for i, is := range v.Null {
		if is {
			l[i] = 1
		}
	}
	return bitsOf(1, l)
}

// ways tells the bytes of a vector with each of the three encodings, shortest or not.
func ways(v column.Vector) [3][]byte {
	head := append(binary.AppendUvarint(nil, uint64(len(v.Null))), modelNulls(v)...)
	return [3][]byte{
		slices.Concat(head, []byte{0}, modelPack(v.Ids)),
		slices.Concat(head, []byte{1}, modelRuns(v.Ids)),
		slices.Concat(head, []byte{2}, modelDeltas(v.Ids)),
	}
}

// modelBytes says again what Bytes tells of a good vector, and by which encoding.
func modelBytes(v column.Vector) ([]byte, int) {
	l := ways(v)
	kind := 0
	for i := range l {
		if len(l[i]) < len(l[kind]) {
			kind = i
		}
	}
	return l[kind], kind
}

// allRows tells each list of up to so many rows of an alphabet.
func allRows(alphabet []int, longest int, tell func(rows []int)) {
	var down func(rows []int)
	down = func(rows []int) {
		tell(rows)
		if len(rows) == longest {
			return
		}
		for _, id := range alphabet {
			down(append(slices.Clone(rows), id))
		}
	}
	down(nil)
}

// thrown: rows that look thrown, always the same ones, with all kinds of runs, steps and nulls.
func thrown(r *rand.Rand, n int) []int {
	width, repeat, nulls, step := 1+r.Intn(9), 1+r.Intn(12), r.Intn(3), r.Intn(6)
	l := make([]int, 0, n)
	id := r.Intn(1 << width)
	for len(l) < n {
		switch {
		case nulls > 0 && r.Intn(6) < nulls:
			l = append(l, null)
		case r.Intn(repeat) > 0:
			l = append(l, id)
		case step > 0:
			id = (id + r.Intn(2*step+1) - step + 512) % 512
			l = append(l, id)
		default:
			id = r.Intn(1 << width)
			l = append(l, id)
		}
	}
	return l
}

// good: many vectors that are.
func good() []column.Vector {
	var l []column.Vector
	for _, n := range []int{0, 1, 2, 7, 8, 9, 15, 16, 17, 127, 128, 129, 255, 256, 511, 512, 999, most} {
		l = append(l, vector(make([]int, n)...), vector(slices.Repeat([]int{null}, n)...), vector(slices.Repeat([]int{lastId}, n)...),
			vector(ramp(n, 1, 512)...), vector(ramp(n, 211, 512)...), vector(ramp(n, 64, 512)...), vector(ramp(n, 1, 2)...), vector(ramp(n, 511, 512)...), vector(slices.Repeat([]int{null, 3}, n)[:n]...))
	}
	r := rand.New(rand.NewSource(1))
	for i := range 3000 {
		n := i % 70
		if i%100 == 99 {
			n = 800 + r.Intn(201)
		}
		l = append(l, vector(thrown(r, n)...))
	}
	return l
}

type badVector struct {
	what string
	v    column.Vector
}

// bad: vectors that are not good.
func bad() []badVector {
	of := func(what string, nulls []bool, ids []int) badVector {
		return badVector{what, column.Vector{Null: nulls, Ids: ids}}
	}
	l := []badVector{
		of("no nulls", nil, []int{0}),
		of("no ids", []bool{false}, nil),
		of("no ids of a null", []bool{true}, nil),
		of("a null less", make([]bool, 3), make([]int, 4)),
		of("an id less", make([]bool, 4), make([]int, 3)),
		of("many nulls, no ids", make([]bool, most+1), nil),
		of("too many rows", make([]bool, most+1), make([]int, most+1)),
		of("far too many rows", make([]bool, 9*most), make([]int, 9*most)),
		of("too many ids", make([]bool, most), make([]int, most+1)),
		of("too many nulls", make([]bool, most+1), make([]int, most)),
	}
	for _, id := range []int{math.MinInt, math.MinInt + 5, -512, -2, -1, 512, 513, 1000, 1 << 16, 1<<32 + 1, math.MaxInt} {
		for _, at := range []int{0, 1, 7, 8} {
			ids := make([]int, 9)
			ids[at] = id
			nulls := make([]bool, 9)
			l = append(l, of(fmt.Sprint("id ", id, " of row ", at), nulls, ids))
			nulls = make([]bool, 9)
			nulls[at] = true
			l = append(l, of(fmt.Sprint("id ", id, " of the null ", at), nulls, ids))
		}
	}
	for _, id := range []int{1, 2, 256, lastId} {
		l = append(l, of("an id of a null", []bool{false, true, false}, []int{4, id, 4}), of("an id of the only null", []bool{true}, []int{id}), of("an id of the last null", []bool{true, true}, []int{0, id}))
	}
	return l
}

func TestGood(t *testing.T) {
	for _, v := range good() {
		same(t, fmt.Sprint("Good ", rowsOf(v)), column.Good(v), true)
	}
	for _, c := range bad() {
		same(t, "Good of "+c.what, column.Good(c.v), false)
	}
	same(t, "the zero value", column.Good(column.Vector{}), true)
	same(t, "empty lists", column.Good(column.Vector{Null: []bool{}, Ids: []int{}}), true)
	same(t, "MaxRows", api.MaxRows, most)
	same(t, "MaxIds", api.MaxIds, lastId+1)
}

func checkBytes(t *testing.T, v column.Vector) (kind int) {
	t.Helper()
	b, e := column.Bytes(v)
	want, kind := modelBytes(v)
	if e != api.OK || !bytes.Equal(b, want) {
		t.Errorf("Bytes %v: %v %d, want %v", rowsOf(v), b, e, want)
	}
	checkLoad(t, want, v)
	return kind
}

func checkLoad(t *testing.T, b []byte, v column.Vector) {
	t.Helper()
	back, e := column.Load(b)
	if e != api.OK || !equal(back, v) {
		t.Errorf("Load %v: %v %v %d, want %v", b, back.Null, back.Ids, e, rowsOf(v))
	}
}

func TestP11_1Bytes(t *testing.T) {
	for _, c := range []struct {
		rows []int
		want []byte
	}{
		{nil, []byte{0, 1}},            // runs and deltas have none: the lesser byte
		{[]int{0}, []byte{1, 0, 0, 0}}, // pack and deltas have one
		{[]int{null}, []byte{1, 1, 0, 0}},
		{[]int{1}, []byte{1, 0, 2, 2}}, // deltas
		{[]int{63}, []byte{1, 0, 2, 126}},
		{[]int{64}, []byte{1, 0, 0, 7, 64}}, // all have two
		{[]int{128}, []byte{1, 0, 0, 8, 128}},
		{[]int{256}, []byte{1, 0, 2, 128, 4}}, // deltas have one less than the others
		{[]int{511}, []byte{1, 0, 2, 254, 7}},
		{[]int{7, 7}, []byte{2, 0, 0, 3, 63}},         // all have two
		{[]int{64, 64}, []byte{2, 0, 1, 64, 2}},       // runs
		{[]int{300, 299}, []byte{2, 0, 2, 216, 4, 1}}, // runs have six, pack has four
		{[]int{300, 300}, []byte{2, 0, 1, 172, 2, 2}}, // runs and deltas have three
		{[]int{5, 5, 5, 5}, []byte{4, 0, 1, 5, 4}},    // as the chapter has it
		{[]int{3, 3, 3, null}, []byte{4, 8, 0, 2, 63}},
		{[]int{null, 1, null}, []byte{3, 5, 0, 1, 2}},
		{make([]int, 9), []byte{9, 0, 0, 0, 0}}, // no bits at all
	} {
		b, e := column.Bytes(vector(c.rows...))
		same(t, fmt.Sprint("Bytes ", c.rows), fmt.Sprint(b, int(e)), fmt.Sprint(c.want, 0))
		checkBytes(t, vector(c.rows...))
	}
}

func TestP11_1BytesOfMany(t *testing.T) {
	var kinds [3]int
	for _, v := range good() {
		kinds[checkBytes(t, v)]++
	}
	for kind, n := range kinds {
		if n < 100 {
			t.Errorf("encoding %d: of %d vectors alone", kind, n)
		}
	}
}

func TestP11_1BytesOfAllSmall(t *testing.T) {
	for _, alphabet := range [][]int{{null, 0, 1, 2, 7, 63, 64, 300}, {0, 1}, {null, 5}, {lastId, 0, null}} {
		longest := 5
		if len(alphabet) < 4 {
			longest = 9
		}
		allRows(alphabet, longest, func(rows []int) { checkBytes(t, vector(rows...)) })
	}
}

func TestP11_1BytesOfSeveralShortest(t *testing.T) { // of several the lesser byte
	seen := map[string]int{}
	for _, v := range good() {
		l := ways(v)
		want, kind := modelBytes(v)
		text := ""
		for i := range l {
			if len(l[i]) == len(want) {
				text += fmt.Sprint(i)
			}
		}
		seen[text]++
		b, _ := column.Bytes(v)
		if at := len(binary.AppendUvarint(nil, uint64(len(v.Ids)))) + len(modelNulls(v)); len(b) <= at || int(b[at]) != kind {
			t.Errorf("encodings %s of %v: %v", text, rowsOf(v), b)
		}
		for i := range l { // no other way is of a vector
			if i != kind {
				noVector(t, "by another way", l[i])
			}
		}
	}
	for _, text := range []string{"0", "1", "2", "01", "02", "12", "012"} {
		if seen[text] == 0 {
			t.Errorf("no vector is as short by just %s: %v", text, seen)
		}
	}
}

func TestP11_1BytesErrors(t *testing.T) {
	for _, c := range bad() {
		b, e := column.Bytes(c.v)
		same(t, "Bytes of "+c.what, fmt.Sprint(len(b), int(e)), "0 2")
	}
}

func noVector(t *testing.T, what string, b []byte) {
	t.Helper()
	v, e := column.Load(b)
	if e != api.ErrCorrupt || !empty(v) {
		t.Errorf("Load %s %v: %v %v %d", what, b, v.Null, v.Ids, e)
	}
}

func TestP11_1LoadErrors(t *testing.T) {
	for _, b := range [][]byte{
		nil, {}, {0}, {1}, {128}, {128, 0}, {255}, // no number of rows, or nothing behind it
		{0, 0}, {0, 0, 0}, {0, 2}, {0, 3}, {0, 1, 0}, {0, 1, 0, 1}, {128, 0, 1}, {0, 0, 0, 0}, // no rows
		{1, 0}, {1, 1}, {1, 0, 0}, {1, 0, 1}, {1, 0, 2}, // no ids
		{1, 2, 0, 0}, {1, 128, 0, 0}, {1, 254, 0, 0}, {1, 3, 0, 0}, // bits behind the nulls
		{1, 0, 0, 0, 0}, {1, 0, 0, 1, 0}, {1, 0, 0, 8, 0}, {1, 0, 0, 64, 0, 0, 0, 0, 0, 0, 0, 0}, // too wide
		{1, 0, 0, 65, 0, 0, 0, 0, 0, 0, 0, 0, 0}, {1, 0, 0, 255}, {1, 0, 0, 128, 0, 0, 0, 0, 0, 0, 0, 0, 0, 0, 0, 0, 0}, // no width
		{1, 0, 1, 0, 1}, {1, 0, 2, 0}, {1, 0, 2, 2, 0}, {1, 0, 2, 130, 0}, {1, 0, 1, 1, 1}, {1, 0, 0, 1, 1}, {1, 0, 2, 128, 1}, // not the shortest, or the lesser byte
		{1, 0, 3, 0}, {1, 0, 255, 0}, {1, 0, 128, 2}, {1, 0, 4, 2}, // no encoding
		{1, 1, 2, 2}, {1, 1, 0, 1, 1}, {1, 1, 0, 8, 128}, // a null with an id
		{2, 0, 1, 5, 1, 5, 1}, {4, 0, 1, 5, 3, 5, 1}, {4, 0, 1, 5, 4, 6, 0}, {4, 0, 1, 5, 0, 5, 4}, // no longest runs
		{4, 0, 1, 5, 3}, {4, 0, 1, 5, 5}, {3, 0, 1, 5, 4}, {5, 0, 1, 5, 4}, {4, 0, 1, 5, 4, 0}, {4, 0, 1, 5, 132, 0}, {4, 0, 1, 133, 0, 4}, // other numbers of rows
		{1, 0, 2, 1}, {1, 0, 2, 127}, {1, 0, 2, 128, 8}, {1, 0, 2, 130, 8}, {1, 0, 0, 10, 0, 2}, {2, 0, 1, 128, 4, 2}, {2, 0, 2, 2, 3}, // ids that may not be
		{4, 0, 1, 255, 255, 255, 255, 255, 255, 255, 255, 255, 1, 4}, {4, 0, 1, 133, 128, 128, 128, 128, 128, 128, 128, 128, 1, 4}, {4, 0, 1, 133, 128, 128, 128, 16, 4},
		{4, 0, 1, 5, 160, 141, 6}, {4, 0, 1, 5, 161, 141, 6}, {4, 0, 1, 5, 255, 255, 255, 255, 255, 255, 255, 255, 255, 1}, // very many rows
		{160, 141, 6, 0}, {255, 255, 255, 255, 255, 255, 255, 255, 255, 1, 0, 1}, {128, 128, 128, 128, 128, 128, 128, 128, 128, 1, 1, 5, 4}, {255, 255, 255, 255, 255, 255, 255, 255, 255, 2, 0, 1},
	} {
		noVector(t, "of", b)
	}
	for _, rows := range []int{most + 1, most + 7, 1024, 100000, 100001, 1 << 20} { // more rows than may be
		nulls := make([]byte, (rows+7)/8)
		head := append(binary.AppendUvarint(nil, uint64(rows)), nulls...)
		noVector(t, "of too many", append(slices.Clone(head), 0, 0))
		noVector(t, "of too many", append(slices.Clone(head), modelRunsOf(5, rows)...))
		noVector(t, "of too many", slices.Concat(head, []byte{2}, make([]byte, rows)))
	}
	noVector(t, "of very many ids", append([]byte{4, 0, 2}, make([]byte, 1<<20)...))
	checkLoad(t, append(binary.AppendUvarint(nil, most), append(make([]byte, most/8), modelRunsOf(5, most)...)...), vector(slices.Repeat([]int{5}, most)...))
}

func modelRunsOf(id, rows int) []byte {
	return binary.AppendUvarint([]byte{1, byte(id)}, uint64(rows))
}

// checkAny holds bytes of any kind against the model: what Load takes, Bytes tells just so.
func checkAny(t *testing.T, b []byte) bool {
	t.Helper()
	v, e := column.Load(b)
	switch {
	case e == api.OK:
		want, _ := modelBytes(v)
		if len(v.Null) != len(v.Ids) || !column.Good(v) || !bytes.Equal(want, b) {
			t.Errorf("Load %v: %v %v", b, v.Null, v.Ids)
		}
		return true
	case e != api.ErrCorrupt || !empty(v):
		t.Errorf("Load %v: %v %v %d", b, v.Null, v.Ids, e)
	}
	return false
}

func TestP11_1LoadOfAllSmall(t *testing.T) {
	taken := 0
	alphabet := []byte{0, 1, 2, 3, 4, 5, 7, 9, 64, 128, 129, 255}
	var down func(b []byte)
	down = func(b []byte) {
		if checkAny(t, b) {
			taken++
		}
		if len(b) == 5 {
			return
		}
		for _, c := range alphabet {
			down(append(slices.Clone(b), c))
		}
	}
	down(nil)
	same(t, "some are of vectors", taken > 100, true)
}

func TestP11_1LoadOfAllIds(t *testing.T) { // none is refused
	for id := null; id <= lastId; id++ {
		checkBytes(t, vector(id))
		checkBytes(t, vector(id, id))
		checkBytes(t, vector(slices.Repeat([]int{id}, most)...))
		for other := null; other <= lastId; other += 1 + (id+1)%7 {
			checkBytes(t, vector(id, other))
		}
	}
}

func TestP11_1LoadOfChanged(t *testing.T) { // bits that are turned, bytes that are left out, doubled, or put behind
	for i, v := range good() {
		b, _ := modelBytes(v)
		if i%4 > 0 || len(b) > 60 && i%200 > 0 {
			continue
		}
		for at := range b {
			for bit := range 8 {
				c := slices.Clone(b)
				c[at] ^= 1 << bit
				checkAny(t, c)
			}
			noOther(t, slices.Delete(slices.Clone(b), at, at+1), v)
			noOther(t, slices.Insert(slices.Clone(b), at, b[at]), v)
			noOther(t, b[:at], v)
		}
		for _, more := range [][]byte{{0}, {1}, {128}, {255, 255}, b} {
			noOther(t, append(slices.Clone(b), more...), v)
		}
	}
}

// noOther: other bytes are not of the same vector.
func noOther(t *testing.T, b []byte, v column.Vector) {
	t.Helper()
	own, _ := modelBytes(v)
	if checkAny(t, b) && !bytes.Equal(b, own) {
		if back, _ := column.Load(b); equal(back, v) {
			t.Errorf("Load %v: %v", b, rowsOf(v))
		}
	}
}

func TestP11_1LoadOfThrown(t *testing.T) {
	r := rand.New(rand.NewSource(2))
	for range 200000 {
		b := make([]byte, r.Intn(12))
		for i := range b {
			b[i] = byte(r.Intn(256)) >> r.Intn(8)
		}
		if len(b) > 3 {
			b[0], b[2] = b[0]%20, b[2]%4
		}
		checkAny(t, b)
	}
}

func checkPick(t *testing.T, v column.Vector, rows []int) {
	t.Helper()
	var want []int
	all := rowsOf(v)
	for _, row := range rows {
		want = append(want, all[row])
	}
	p, e := column.Pick(v, rows)
	if e != api.OK || !equal(p, vector(want...)) {
		t.Errorf("Pick %v of %v: %v %v %d", rows, all, p.Null, p.Ids, e)
	}
}

func TestP11_2Pick(t *testing.T) {
	v := vector(9, null, 7, lastId, 0)
	for _, rows := range [][]int{nil, {}, {0}, {1}, {4}, {4, 3, 2, 1, 0}, {0, 0, 0}, {1, 0, 1, 4, 4, 1}, {0, 1, 2, 3, 4}, {2, 3}, slices.Repeat([]int{1, 0}, 500), slices.Repeat([]int{3}, most)} {
		checkPick(t, v, rows)
	}
	checkPick(t, vector(), nil)
	r := rand.New(rand.NewSource(3))
	for _, v := range good() {
		n := len(v.Ids)
		if n == 0 {
			checkPick(t, v, nil)
			continue
		}
		for _, m := range []int{1, n, r.Intn(40)} {
			rows := make([]int, m)
			for i := range rows {
				rows[i] = r.Intn(n)
			}
			checkPick(t, v, rows)
		}
	}
}

func TestP11_2PickErrors(t *testing.T) {
	fault := func(what string, v column.Vector, rows []int) {
		t.Helper()
		p, e := column.Pick(v, rows)
		if e != api.ErrArg || !empty(p) {
			t.Errorf("Pick %s: %v %v %d", what, p.Null, p.Ids, e)
		}
	}
	for _, n := range []int{0, 1, 4, most} {
		v := vector(ramp(n, 1, 512)...)
		for _, row := range []int{math.MinInt, -n - 1, -2, -1, n, n + 1, 2*n + 1, 1 << 32, math.MaxInt} {
			fault(fmt.Sprint("row ", row, " of ", n), v, []int{row})
			if n > 0 {
				fault(fmt.Sprint("and row ", row, " of ", n), v, []int{0, n - 1, row})
				fault(fmt.Sprint("row ", row, " of ", n, ", and others"), v, []int{row, 0})
			}
		}
		if n > 0 {
			fault("more than may be", v, make([]int, most+1))
			fault("many more than may be", v, make([]int, 5*most))
			fault("more than may be, not all rows", v, append(make([]int, most), n))
		}
	}
	for _, c := range bad() {
		fault(c.what, c.v, nil)
		fault(c.what, c.v, []int{})
		fault(c.what, c.v, []int{0})
		fault(c.what, c.v, []int{-1})
	}
}

func checkJoin(t *testing.T, l ...column.Vector) {
	t.Helper()
	var all []int
	for _, v := range l {
		all = append(all, rowsOf(v)...)
	}
	j, e := column.Join(l)
	if len(all) > most {
		if e != api.ErrFull || !empty(j) {
			t.Errorf("Join of %d rows: %v %v %d", len(all), j.Null, j.Ids, e)
		}
	} else if e != api.OK || !equal(j, vector(all...)) {
		t.Errorf("Join of %v: %v %v %d", l, j.Null, j.Ids, e)
	}
}

func TestP11_2Join(t *testing.T) {
	checkJoin(t)
	checkJoin(t, vector())
	checkJoin(t, vector(), column.Vector{}, vector())
	checkJoin(t, vector(1))
	checkJoin(t, vector(1), vector(2))
	checkJoin(t, vector(2), vector(1))
	checkJoin(t, vector(null), vector(lastId, null), vector(), vector(0, 5, 5))
	for _, n := range []int{0, 1, 2, 499, 500, 501, 998, 999, most} {
		for _, m := range []int{0, 1, 2, 499, 500, 501, 999, most} {
			checkJoin(t, vector(ramp(n, 1, 512)...), vector(ramp(m, 211, 512)...))
			checkJoin(t, vector(slices.Repeat([]int{null}, n)...), vector(), vector(ramp(m, 3, 512)...), vector(null))
		}
	}
	checkJoin(t, slices.Repeat([]column.Vector{vector(3)}, most)...)
	checkJoin(t, slices.Repeat([]column.Vector{vector(3)}, most+1)...)
	checkJoin(t, slices.Repeat([]column.Vector{vector()}, 5*most)...)
	checkJoin(t, slices.Repeat([]column.Vector{vector(make([]int, most)...)}, 300)...)
	l := good()
	r := rand.New(rand.NewSource(4))
	for range 3000 {
		var some []column.Vector
		for range r.Intn(6) {
			some = append(some, l[r.Intn(len(l))])
		}
		checkJoin(t, some...)
	}
}

func TestP11_2JoinErrors(t *testing.T) {
	long := vector(make([]int, most)...)
	for _, c := range bad() {
		for _, l := range [][]column.Vector{
			{c.v}, {c.v, vector(1)}, {vector(1), c.v}, {vector(1), c.v, vector(2)}, {c.v, c.v}, {vector(), c.v},
			{long, long, c.v}, {c.v, long, long}, {long, c.v, long}, {long, c.v}, // ErrArg comes ahead of ErrFull
		} {
			j, e := column.Join(l)
			if e != api.ErrArg || !empty(j) {
				t.Errorf("Join of %s: %v %v %d", c.what, j.Null, j.Ids, e)
			}
		}
	}
}

func checkRange(t *testing.T, v column.Vector) {
	t.Helper()
	low, high, found := 0, 0, false
	for _, id := range rowsOf(v) {
		if id == null {
			continue
		}
		if !found || id < low {
			low = id
		}
		if !found || id > high {
			high = id
		}
		found = true
	}
	a, b, ok := column.Range(v)
	if a != low || b != high || ok != found {
		t.Errorf("Range of %v: %d %d %v, want %d %d %v", rowsOf(v), a, b, ok, low, high, found)
	}
}

func TestP11_2Range(t *testing.T) {
	for _, c := range []struct {
		v    column.Vector
		want string
	}{
		{vector(), "0 0 false"}, {vector(null), "0 0 false"}, {vector(null, null, null), "0 0 false"}, {column.Vector{}, "0 0 false"},
		{vector(0), "0 0 true"}, {vector(5), "5 5 true"}, {vector(null, 5), "5 5 true"}, {vector(5, null), "5 5 true"}, {vector(null, 0), "0 0 true"},
		{vector(5, 3, 9), "3 9 true"}, {vector(9, 5, 3), "3 9 true"}, {vector(3, null, 9), "3 9 true"}, {vector(lastId, 0), "0 511 true"}, {vector(lastId, null), "511 511 true"},
	} {
		a, b, ok := column.Range(c.v)
		same(t, fmt.Sprint("Range of ", rowsOf(c.v)), fmt.Sprint(a, b, ok), c.want)
	}
	allRows([]int{null, 0, 1, 4, lastId}, 5, func(rows []int) { checkRange(t, vector(rows...)) })
	for _, v := range good() {
		checkRange(t, v)
	}
	for _, c := range bad() {
		a, b, ok := column.Range(c.v)
		same(t, "Range of "+c.what, fmt.Sprint(a, b, ok), "0 0 false")
	}
}

func checkWhere(t *testing.T, v column.Vector, id int) {
	t.Helper()
	var want []int
	for row, its := range rowsOf(v) {
		if its != null && its == id {
			want = append(want, row)
		}
	}
	if got := column.Where(v, id); !slices.Equal(got, want) {
		t.Errorf("Where %d of %v: %v, want %v", id, rowsOf(v), got, want)
	}
}

func TestP11_2Where(t *testing.T) {
	for _, c := range []struct {
		v    column.Vector
		id   int
		want string
	}{
		{vector(5, 7, 5, null, 5), 5, "[0 2 4]"}, {vector(5, 7, 5), 7, "[1]"}, {vector(5, 7, 5), 6, "[]"}, {vector(), 0, "[]"},
		{vector(null, 0, null, 0), 0, "[1 3]"}, {vector(null, null), 0, "[]"}, {vector(null), -1, "[]"}, {vector(lastId), lastId, "[0]"}, {vector(0), 1 << 32, "[]"},
	} {
		same(t, fmt.Sprint("Where ", c.id, " of ", rowsOf(c.v)), column.Where(c.v, c.id), c.want)
	}
	ids := []int{math.MinInt, -1, 0, 1, 2, 3, 5, 63, 255, lastId, 512, 1 << 32, math.MaxInt}
	allRows([]int{null, 0, 1, lastId}, 5, func(rows []int) {
		for _, id := range ids {
			checkWhere(t, vector(rows...), id)
		}
	})
	for _, v := range good() {
		for _, id := range ids {
			checkWhere(t, v, id)
		}
		if len(v.Ids) > 0 {
			checkWhere(t, v, v.Ids[len(v.Ids)/2])
		}
	}
	for _, c := range bad() {
		for _, id := range append(ids, c.v.Ids[:min(9, len(c.v.Ids))]...) {
			same(t, "Where of "+c.what, len(column.Where(c.v, id)), 0)
		}
	}
}

func TestP11_3(t *testing.T) {
	r := rand.New(rand.NewSource(5))
	for _, v := range good() {
		b, e := column.Bytes(v)
		same(t, "Bytes", int(e), 0)
		checkLoad(t, b, v) // Load undoes Bytes
		n := len(v.Ids)
		p, e := column.Pick(v, ramp(n, 1, n+1))
		if e != api.OK || !equal(p, v) {
			t.Errorf("Pick of all rows of %v: %v %d", rowsOf(v), p, e)
		}
		var parts []column.Vector
		for at := 0; at < n; {
			end := min(n, at+r.Intn(n))
			part, e := column.Pick(v, ramp(n, 1, n+1)[at:end])
			same(t, "Pick", int(e), 0)
			parts = append(parts, part)
			if at = end; r.Intn(9) == 0 || n == 1 {
				last, _ := column.Pick(v, ramp(n, 1, n+1)[at:])
				parts = append(parts, last)
				break
			}
		}
		j, e := column.Join(parts)
		if e != api.OK || !equal(j, v) {
			t.Errorf("Join of the parts of %v: %v %d", rowsOf(v), j, e)
		}
		if low, high, ok := column.Range(v); ok {
			same(t, "the ends are there", len(column.Where(v, low)) > 0 && len(column.Where(v, high)) > 0, true)
		}
	}
}

// roomy: a vector with more behind its lists' ends.
func roomy(v column.Vector) column.Vector {
	n := len(v.Ids)
	return column.Vector{Null: append(slices.Clone(v.Null), true, false, true)[:n], Ids: append(slices.Clone(v.Ids), 77, -77, 1)[:n]}
}

// whole: a vector with what lies behind its lists' ends.
func whole(v column.Vector) string {
	return fmt.Sprint(v.Null[:cap(v.Null)], v.Ids[:cap(v.Ids)])
}

// spoil writes over an answer, and over the room behind it.
func spoil(v column.Vector) {
	for i := range v.Null[:cap(v.Null)] {
		v.Null[:cap(v.Null)][i] = !v.Null[:cap(v.Null)][i]
	}
	for i := range v.Ids[:cap(v.Ids)] {
		v.Ids[:cap(v.Ids)][i] = -9
	}
}

func TestMemory(t *testing.T) {
	for _, rows := range [][]int{nil, {5}, {5, 5, 5, 5}, {null, 3, 1, null}, ramp(40, 1, 512), ramp(40, 211, 512), make([]int, 30)} {
		v := roomy(vector(rows...))
		given := whole(v)
		all := append(ramp(len(rows), 1, len(rows)+1), 6, 6, 6)
		chosen := all[:len(rows)]
		list := []column.Vector{v, roomy(vector(1, null)), {Ids: []int{4}}}
		for _, try := range []func() column.Vector{
			func() column.Vector { p, _ := column.Pick(v, chosen); return p },
			func() column.Vector { j, _ := column.Join(list[:1]); return j },
		} {
			a, b := try(), try()
			spoil(a)
			same(t, "the vector stays", whole(v), given)
			same(t, "an answer of its own", equal(b, vector(rows...)), true)
		}
		same(t, "the rows stay", all[len(rows):], []int{6, 6, 6})
		same(t, "the rows stay", chosen, ramp(len(rows), 1, len(rows)+1))
		j, _ := column.Join(list[:2])
		spoil(j)
		same(t, "the vector stays", whole(v), given)
		same(t, "the other one, too", equal(list[1], vector(1, null)), true)
		same(t, "what lies behind the list, too", fmt.Sprint(list[2].Null, list[2].Ids), "[] [4]")

		b, _ := column.Bytes(v)
		same(t, "the vector stays", whole(v), given)
		told := append(slices.Clone(b), 1, 2, 3)
		back, e := column.Load(told[:len(b)])
		same(t, "Load", int(e), 0)
		same(t, "the bytes stay", told, append(slices.Clone(b), 1, 2, 3))
		clear(told)
		same(t, "nothing is kept", equal(back, vector(rows...)), true)
		spoil(back)
		again, _ := column.Load(b)
		same(t, "an answer of its own", equal(again, vector(rows...)), true)
		other, _ := column.Bytes(v)
		clear(other[:cap(other)])
		same(t, "an answer of its own", b, func() []byte { l, _ := modelBytes(vector(rows...)); return l }())

		w := column.Where(v, 5)
		clear(w[:cap(w)])
		column.Range(v)
		column.Good(v)
		checkWhere(t, v, 5)
		same(t, "the vector stays", whole(v), given)
	}
	v := vector(1, 2, 3)
	p, _ := column.Pick(v, []int{0, 1, 2})
	j, _ := column.Join([]column.Vector{v})
	spoil(v)
	same(t, "changed behind the call", equal(p, vector(1, 2, 3)) && equal(j, vector(1, 2, 3)), true)
}
