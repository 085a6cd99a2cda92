package digest_test

import (
	"encoding/binary"
	"fmt"
	"math"
	"math/big"
	"slices"
	"strconv"
	"strings"
	"testing"

	"talus/api"
	"talus/digest"
)

func same(t *testing.T, what string, got, want any) {
	t.Helper()
	if a, b := fmt.Sprint(got), fmt.Sprint(want); a != b {
		t.Errorf("%s: %s, want %s", what, a, b)
	}
}

// draws: numbers of 64 bits, always the same ones.
func draws(n int) []uint64 {
	l := make([]uint64, n)
	u := uint64(1)
	for i := range l {
		u = u*6364136223846793005 + 1442695040888963407
		l[i] = u ^ u>>29
	}
	return l
}

// streams: numbers in several manners.
func streams(n int) map[string][]uint64 {
	m := map[string][]uint64{"wild": draws(n)}
	add := func(name string, number func(i int, x uint64) uint64) {
		for i, x := range draws(n) {
			m[name] = append(m[name], number(i, x))
		}
	}
	add("few", func(i int, x uint64) uint64 { return x % 7 })
	add("small", func(i int, x uint64) uint64 { return x % 500 })
	add("of all lengths", func(i int, x uint64) uint64 { return x >> (x % 64) })
	add("rising", func(i int, x uint64) uint64 { return uint64(i) })
	add("rising far", func(i int, x uint64) uint64 { return uint64(i) * 88172645463325 })
	add("falling from the end", func(i int, x uint64) uint64 { return math.MaxUint64 - uint64(i)*3 })
	add("one often", func(i int, x uint64) uint64 { return x >> 32 * (x >> 20 & 1) })
	add("halves", func(i int, x uint64) uint64 { return 1 << 63 >> (i % 64) })
	add("turned bits", func(i int, x uint64) uint64 { return ^uint64(0) ^ 1<<(i%64) ^ x%3 })
	return m
}

func filled(k int, numbers ...uint64) *digest.Digest {
	d := digest.New(k)
	for _, x := range numbers {
		d.Insert(x)
	}
	return d
}

// A model is a digest whose nodes are the digits, to base 2, with which their numbers begin.
type model struct {
	k, n  int
	nodes map[string]int
}

func newModel(k int) *model { return &model{k, 0, map[string]int{}} }

func (m *model) insert(x uint64) {
	m.nodes[fmt.Sprintf("%064b", x)]++
	m.n++
	m.fit()
}

func (m *model) merge(o *model) {
	m.n += o.n
	counts := map[string]int{}
	for _, s := range o.sorted() {
		counts[s] = o.nodes[s]
	}
	for s, c := range counts {
		m.nodes[s] += c
	}
	m.fit()
}

func (m *model) fit() {
	if len(m.nodes) <= 3*m.k+64 {
		return
	}
	for again := true; again; {
		again = false
		for length := 64; length > 0; length-- {
			for _, s := range m.ofLength(length) {
				if m.nodes[s] > 0 && m.lift(s) {
					again = true
				}
			}
		}
	}
}

func (m *model) lift(s string) bool {
	up := s[:len(s)-1]
	left, right := up+"0", up+"1"
	all := m.nodes[up] + m.nodes[left] + m.nodes[right]
	if all > m.n/m.k {
		return false
	}
	m.nodes[up] = all
	delete(m.nodes, left)
	delete(m.nodes, right)
	return true
}

func (m *model) ofLength(length int) []string {
	var l []string
	for s := range m.nodes {
		if len(s) == length {
			l = append(l, s)
		}
	}
	slices.Sort(l)
	return l
}

// sorted: the nodes by level, then prefix: the longest first.
func (m *model) sorted() []string {
	var l []string
	for s := range m.nodes {
		l = append(l, s)
	}
	slices.SortFunc(l, func(a, b string) int {
		if len(a) != len(b) {
			return len(b) - len(a)
		}
		return strings.Compare(a, b)
	})
	return l
}

func (m *model) list() []digest.Node {
	var l []digest.Node
	for _, s := range m.sorted() {
		prefix, _ := strconv.ParseUint("0"+s, 2, 64)
		l = append(l, digest.Node{Level: 64 - len(s), Prefix: prefix, Count: m.nodes[s]})
	}
	return l
}

// rank: of how many the nodes up to each greatest number count.
func (m *model) rank(r int) (uint64, bool) {
	if r < 1 || r > m.n {
		return 0, false
	}
	ends := map[string]int{}
	for s, c := range m.nodes {
		ends[(s + strings.Repeat("1", 64))[:64]] += c
	}
	var l []string
	for s := range ends {
		l = append(l, s)
	}
	slices.Sort(l)
	counted := 0
	for _, s := range l {
		counted += ends[s]
		if counted >= r {
			v, _ := strconv.ParseUint(s, 2, 64)
			return v, true
		}
	}
	panic("fewer than n")
}

func (m *model) bytes() []byte {
	l := []uint64{uint64(len(m.nodes))}
	for _, n := range m.list() {
		l = append(l, uint64(n.Level), n.Prefix, uint64(n.Count))
	}
	return numbers(l...)
}

func numbers(l ...uint64) []byte {
	var b []byte
	for _, u := range l {
		b = binary.AppendUvarint(b, u)
	}
	return b
}

func check(t *testing.T, what string, d *digest.Digest, m *model) {
	t.Helper()
	same(t, what+": Nodes", d.Nodes(), m.list())
	same(t, what+": Count", d.Count(), m.n)
	same(t, what+": Bytes", d.Bytes(), m.bytes())
}

func checkRanks(t *testing.T, what string, d *digest.Digest, m *model) {
	t.Helper()
	ranks := []int{-1, 0, m.n, m.n + 1}
	for r := 1; r < m.n; r += 1 + m.n/100 {
		ranks = append(ranks, r)
	}
	for _, r := range ranks {
		v, ok := d.Rank(r)
		want, told := m.rank(r)
		if v != want || ok != told {
			t.Errorf("%s: Rank(%d): %d %t, want %d %t", what, r, v, ok, want, told)
		}
	}
}

func TestP7_1New(t *testing.T) {
	for _, k := range []int{math.MinInt, -64, -1, 0, 1, 2, 63, 64, 65, 128, math.MaxInt} {
		good := k >= 1 && k <= 64
		same(t, fmt.Sprint("New ", k), digest.New(k) != nil, good)
		d, e := digest.Load(k, []byte{0})
		same(t, fmt.Sprint("Load ", k), d != nil, good)
		same(t, fmt.Sprint("Load ", k), e == api.OK, good)
	}
	for k := 1; k <= 64; k++ {
		d := digest.New(k)
		same(t, "Count", d.Count(), 0)
		same(t, "Nodes", len(d.Nodes()), 0)
		same(t, "Bytes", d.Bytes(), "[0]")
		_, ok := d.Rank(0)
		same(t, "Rank(0)", ok, false)
		v, ok := d.Rank(1)
		same(t, "Rank(1)", fmt.Sprint(v, ok), "0 false")
	}
}

func TestP7_1Insert(t *testing.T) {
	same(t, "the chapter's", filled(1, 5, 5, 9).Nodes(), "[{0 5 2} {0 9 1}]")
	same(t, "the ends", filled(1, math.MaxUint64, 0).Nodes(), "[{0 0 1} {0 18446744073709551615 1}]")
	for _, k := range []int{1, 2, 3, 7, 64} {
		for name, l := range streams(600) {
			d, m := digest.New(k), newModel(k)
			for i, x := range l {
				d.Insert(x)
				m.insert(x)
				check(t, fmt.Sprint(k, name, i), d, m)
				if t.Failed() {
					return
				}
			}
			checkRanks(t, fmt.Sprint(k, name), d, m)
		}
	}
}

func TestP7_1InsertFills(t *testing.T) { // how many nodes there may be until they are compressed
	for k := 1; k <= 64; k++ {
		d := digest.New(k)
		most := 3*k + 64
		for i := range most {
			d.Insert(uint64(i) << 40)
			d.Insert(uint64(i) << 40)
		}
		same(t, "not yet", len(d.Nodes()), most)
		d.Insert(0)
		same(t, "another one of a node", len(d.Nodes()), most)
		d.Insert(math.MaxUint64)
		if n := len(d.Nodes()); n >= most {
			t.Errorf("k %d: %d nodes when compressed", k, n)
		}
		same(t, "Count", d.Count(), 2*most+2)
	}
}

// many: a digest of 2^doublings numbers x.
func many(k int, x uint64, doublings int) *digest.Digest {
	d := filled(k, x)
	for range doublings {
		d.Merge(d)
	}
	return d
}

func TestP7_1Full(t *testing.T) {
	d := many(2, 7, 50)
	same(t, "full", d.Nodes(), fmt.Sprintf("[{0 7 %d}]", 1<<50))
	d.Insert(8)
	d.Insert(7)
	same(t, "Insert does nothing", d.Nodes(), fmt.Sprintf("[{0 7 %d}]", 1<<50))
	same(t, "Count", d.Count(), 1<<50)
	same(t, "with itself", d.Merge(d), api.ErrFull)
	same(t, "one more", d.Merge(filled(2, 9)), api.ErrFull)
	same(t, "it stays", d.Nodes(), fmt.Sprintf("[{0 7 %d}]", 1<<50))
	same(t, "of none", d.Merge(digest.New(2)), api.OK)
	same(t, "full of another", filled(2, 1).Merge(d), api.ErrFull)
	o := digest.New(2)
	same(t, "full of none", o.Merge(d), api.OK)
	same(t, "full of none", o.Count(), 1<<50)
	v, ok := d.Rank(1 << 50)
	same(t, "the last one", fmt.Sprint(v, ok), "7 true")
	v, ok = d.Rank(1<<50 + 1)
	same(t, "one too many", fmt.Sprint(v, ok), "0 false")
	d = many(2, 3, 49)
	o = many(2, 4, 48)
	same(t, "three quarters", d.Merge(o), api.OK)
	for i := range 48 {
		same(t, "and more", d.Merge(many(2, 5, i)), api.OK)
	}
	same(t, "all but one", d.Count(), 1<<50-1)
	same(t, "two too many", d.Merge(filled(2, 6, 6)), api.ErrFull)
	same(t, "all but one", d.Count(), 1<<50-1)
	d.Insert(6)
	same(t, "Nodes", d.Nodes(), fmt.Sprintf("[{0 3 %d} {0 4 %d} {0 5 %d} {0 6 1}]", 1<<49, 1<<48, 1<<48-1))
	d.Insert(6)
	same(t, "full", d.Count(), 1<<50)
}

func TestP7_1FullCompressed(t *testing.T) { // a digest of very many, with too many nodes
	for _, k := range []int{1, 3, 64} {
		d, m := many(k, 1<<63, 49), newModel(k)
		m.nodes["1"+strings.Repeat("0", 63)], m.n = 1<<49, 1<<49
		for _, x := range draws(300) {
			d.Insert(x)
			m.insert(x)
			check(t, fmt.Sprint("k ", k), d, m)
		}
		same(t, "with itself", d.Merge(d), api.ErrFull)
		check(t, "it stays", d, m)
	}
}

func TestP7_1Merge(t *testing.T) {
	for _, k := range []int{1, 2, 5, 64} {
		for name, l := range streams(700) {
			for _, cut := range []int{0, 60, 350, 700} {
				what := fmt.Sprint(k, name, cut)
				d, o, m, p := digest.New(k), digest.New(k), newModel(k), newModel(k)
				for _, x := range l[:cut] {
					d.Insert(x)
					m.insert(x)
				}
				for _, x := range l[cut:] {
					o.Insert(x)
					p.insert(x)
				}
				same(t, what, d.Merge(o), api.OK)
				m.merge(p)
				check(t, what, d, m)
				check(t, what+": o stays", o, p)
				same(t, what, d.Merge(d), api.OK)
				m.merge(m)
				check(t, what+": doubled", d, m)
				d.Insert(5)
				m.insert(5)
				check(t, what+": it goes on", d, m)
				check(t, what+": o apart", o, p)
				checkRanks(t, what, d, m)
			}
		}
	}
}

func TestP7_1MergeFills(t *testing.T) {
	for k := 1; k <= 64; k++ {
		most := 3*k + 64
		d, o := digest.New(k), digest.New(k)
		for i := range most {
			d.Insert(uint64(i) << 40)
			if i > 0 {
				o.Insert(uint64(i) << 40)
			}
		}
		same(t, "Merge", d.Merge(o), api.OK)
		same(t, "the same nodes", len(d.Nodes()), most)
		same(t, "with itself", d.Merge(d), api.OK)
		same(t, "the same nodes", len(d.Nodes()), most)
		o.Insert(1)
		same(t, "one more", d.Merge(o), api.OK)
		if n := len(d.Nodes()); n >= most {
			t.Errorf("k %d: %d nodes when compressed", k, n)
		}
		same(t, "Count", d.Count(), 4*most-2+most)
	}
}

func TestP7_1MergeErrors(t *testing.T) {
	d, m := filled(4, 1, 2, 2), newModel(4)
	for _, x := range []uint64{1, 2, 2} {
		m.insert(x)
	}
	for what, o := range map[string]*digest.Digest{
		"nil":     nil,
		"zero":    {},
		"k less":  filled(3, 5),
		"k more":  filled(5, 5),
		"of none": digest.New(64),
		"full":    many(1, 9, 50),
	} {
		same(t, what, d.Merge(o), api.ErrArg)
		check(t, what, d, m)
		var none *digest.Digest
		same(t, "ErrMade ahead: "+what, none.Merge(o), api.ErrMade)
		same(t, "ErrMade ahead: "+what, new(digest.Digest).Merge(o), api.ErrMade)
	}
	o := many(4, 9, 50)
	same(t, "ErrFull", d.Merge(o), api.ErrFull)
	check(t, "ErrFull", d, m)
	same(t, "o stays", o.Nodes(), fmt.Sprintf("[{0 9 %d}]", 1<<50))
}

func TestP7_1Nodes(t *testing.T) {
	d, _ := digest.Load(3, numbers(5, 0, 0, 1, 0, 9, 2, 3, 1, 5, 63, 1, 1, 64, 0, 8))
	same(t, "by level, then prefix", d.Nodes(), "[{0 0 1} {0 9 2} {3 1 5} {63 1 1} {64 0 8}]")
	same(t, "Count", d.Count(), 17)
	l := d.Nodes()
	l[1] = digest.Node{}
	clear(l[:cap(l)])
	same(t, "a list of its own", d.Nodes(), "[{0 0 1} {0 9 2} {3 1 5} {63 1 1} {64 0 8}]")
}

func TestP7_2Compress(t *testing.T) {
	rising := func(k, n int) *digest.Digest {
		d := digest.New(k)
		for i := range n {
			d.Insert(uint64(i))
		}
		return d
	}
	same(t, "k 1: all", rising(1, 68).Nodes(), "[{64 0 68}]")
	same(t, "k 1: and more", rising(1, 70).Nodes(), "[{0 68 1} {0 69 1} {64 0 68}]")
	same(t, "k 2: by B 35", rising(2, 71).Nodes(), "[{5 0 32} {5 1 32} {64 0 7}]")
	same(t, "k 10: by B 9", rising(10, 95).Nodes(), "[{3 0 8} {3 1 8} {3 2 8} {3 3 8} {3 4 8} {3 5 8} {3 6 8} {3 7 8} {3 8 8} {3 9 8} {3 10 8} {3 11 7}]")
}

// beside: bytes of a digest of some nodes, and of the numbers from 0 on so that there are 70 nodes in all.
func beside(nodes ...digest.Node) []byte {
	l := []uint64{70}
	for i := range 70 - len(nodes) {
		l = append(l, 0, uint64(i), 1)
	}
	for _, n := range nodes {
		l = append(l, uint64(n.Level), n.Prefix, uint64(n.Count))
	}
	return numbers(l...)
}

func TestP7_2Family(t *testing.T) { // what counts B together, and what counts one more
	const far = 1 << 63
	for what, c := range map[string]struct {
		nodes []digest.Node
		want  string
	}{
		"sibling, B":             {[]digest.Node{{0, far, 30}, {0, far + 1, 39}}, "[{63 0 69} {63 1 69}]"},
		"sibling, one more":      {[]digest.Node{{0, far, 30}, {0, far + 1, 40}}, "[{0 9223372036854775808 30} {0 9223372036854775809 40} {64 0 69}]"},
		"parent, B":              {[]digest.Node{{0, far, 30}, {1, far / 2, 39}}, "[{63 0 69} {63 1 69}]"},
		"parent, one more":       {[]digest.Node{{0, far, 30}, {1, far / 2, 40}}, "[{62 2 30} {63 0 69} {63 1 40}]"}, // the parent goes, and all that again
		"right, one more":        {[]digest.Node{{0, far + 1, 69}, {1, far / 2, 1}}, "[{62 2 69} {63 0 69} {63 1 1}]"},
		"parent's sibling":       {[]digest.Node{{0, far, 30}, {1, far/2 + 1, 40}}, "[{1 4611686018427387904 30} {1 4611686018427387905 40} {64 0 69}]"},
		"right one, and 2nd one": {[]digest.Node{{0, far + 1, 30}, {0, far + 2, 40}}, "[{1 4611686018427387904 30} {1 4611686018427387905 40} {64 0 69}]"},
	} {
		d, e := digest.Load(2, beside(c.nodes...))
		same(t, what, e, api.OK)
		d.Insert(68)
		same(t, what, d.Nodes(), c.want)
	}
}

func TestP7_2Trees(t *testing.T) { // nodes of all levels, as no Insert would leave them
	l := draws(60000)
	draw := func(n uint64) uint64 {
		u := l[0] >> 11 % n
		l = l[1:]
		return u
	}
	for round := range 40 {
		k := int(draw(9) + 1)
		m := newModel(k)
		for len(m.nodes) < 3*k+64 {
			level := draw(7)
			if round%3 == 0 {
				level = 64 - draw(9)
			}
			length := 64 - int(level)
			prefix := draw(1<<min(length, 7)) << max(0, length-7-int(draw(2))*50)
			s := fmt.Sprintf("%064b", prefix)[64-length:]
			count := int(draw(5) + 1)
			if draw(4) == 0 {
				count *= 40
			}
			m.n += count - m.nodes[s]
			m.nodes[s] = count
		}
		d, e := digest.Load(k, m.bytes())
		same(t, "Load", e, api.OK)
		check(t, "a tree", d, m)
		checkRanks(t, "a tree", d, m)
		for _, x := range draws(80) {
			d.Insert(x)
			m.insert(x)
		}
		check(t, fmt.Sprint("round ", round), d, m)
	}
}

func TestP7_3Rank(t *testing.T) {
	d := filled(1, 5, 5, 9)
	for r, want := range map[int]string{math.MinInt: "0 false", -1: "0 false", 0: "0 false", 1: "5 true", 2: "5 true", 3: "9 true", 4: "0 false", math.MaxInt: "0 false"} {
		v, ok := d.Rank(r)
		same(t, fmt.Sprint("Rank ", r), fmt.Sprint(v, ok), want)
	}
	d, _ = digest.Load(2, numbers(7, 0, 2, 1, 0, 3, 1, 0, 9, 1, 1, 1, 2, 2, 0, 4, 62, 1, 1, 64, 0, 1))
	var l []string
	for r := range 13 {
		v, ok := d.Rank(r)
		l = append(l, fmt.Sprint(v, ok))
	}
	half := strconv.Itoa(1<<63 - 1)
	same(t, "several with one greatest number", l, "[0 false 2 true 3 true 3 true 3 true 3 true 3 true 3 true 3 true 9 true "+half+" true 18446744073709551615 true 0 false]")
	for level := range 65 { // the greatest number of each node at the ends of its level
		greatest := new(big.Int).Lsh(big.NewInt(1), uint(level))
		greatest.Sub(greatest, big.NewInt(1))
		d, _ := digest.Load(1, numbers(1, uint64(level), 0, 1))
		v, ok := d.Rank(1)
		same(t, fmt.Sprint("the first of level ", level), fmt.Sprint(v, ok), greatest.String()+" true")
		d, _ = digest.Load(1, numbers(1, uint64(level), math.MaxUint64>>level, 1))
		v, ok = d.Rank(1)
		same(t, fmt.Sprint("the last of level ", level), fmt.Sprint(v, ok), "18446744073709551615 true")
	}
}

func TestP7_3Target(t *testing.T) {
	same(t, "the chapter's", digest.Target(10, 500), 5)
	same(t, "the chapter's", digest.Target(1, 0), 1)
	edges := []int{math.MinInt, math.MinInt + 1, -1001, -1000, -1, 0, 1, 2, 3, 10, 499, 500, 501, 998, 999, 1000, 1001, 1999, 2000, 2001, 123456, math.MaxInt/1000 - 1, math.MaxInt / 1000, math.MaxInt/1000 + 1, math.MaxInt - 1000, math.MaxInt - 807, math.MaxInt - 1, math.MaxInt}
	for _, n := range edges {
		for _, mille := range edges {
			part := big.NewInt(int64(min(max(mille, 0), 1000)))
			part.Mul(part, big.NewInt(int64(max(n, 0))))
			part.Add(part, big.NewInt(999))
			part.Div(part, big.NewInt(1000))
			want := max(int(part.Int64()), 1)
			if n < 1 {
				want = 0
			}
			same(t, fmt.Sprint("Target ", n, mille), digest.Target(n, mille), want)
		}
	}
	for n := range 2100 {
		for _, mille := range []int{1, 2, 7, 100, 333, 500, 999, 1000} {
			want := 0
			for n > 0 && want*1000 < n*mille || want < min(n, 1) {
				want++
			}
			same(t, fmt.Sprint("Target ", n, mille), digest.Target(n, mille), want)
		}
	}
}

func TestP7_4Bytes(t *testing.T) {
	same(t, "two nodes", filled(1, 300, 5, 5).Bytes(), []byte{2, 0, 5, 2, 0, 172, 2, 1})
	d := digest.New(2)
	for i := range 71 {
		d.Insert(uint64(i))
	}
	same(t, "nodes of levels", d.Bytes(), []byte{3, 5, 0, 32, 5, 1, 32, 64, 0, 7})
}

// told: is b what a digest of some nodes tells? (By the words of P7.4, with numbers of any length.)
func told(k int, b []byte) bool {
	var l []uint64
	for rest := b; len(rest) > 0; {
		u, n := binary.Uvarint(rest)
		if n <= 0 || len(numbers(u)) != n {
			return false
		}
		l = append(l, u)
		rest = rest[n:]
	}
	if len(l) == 0 || l[0] > uint64(3*k+64) || uint64(len(l)) != 1+3*l[0] {
		return false
	}
	for i := 1; i < len(l); i += 3 {
		level, prefix, count := l[i], l[i+1], l[i+2]
		if level > 64 || count < 1 || count > 1<<40 || new(big.Int).SetUint64(prefix).BitLen()+int(level) > 64 {
			return false
		}
		if i > 1 && (level < l[i-3] || level == l[i-3] && prefix <= l[i-2]) {
			return false
		}
	}
	return true
}

func loads(t *testing.T, k int, b []byte) bool {
	t.Helper()
	given := slices.Clone(b)
	d, e := digest.Load(k, b)
	want := told(k, b)
	same(t, fmt.Sprint("Load of ", b), e == api.OK, want)
	same(t, "b stays", b, given)
	if e != api.OK {
		same(t, "the error", e, api.ErrCorrupt)
		same(t, "beside an error", d == nil, true)
		return false
	}
	same(t, fmt.Sprint("Bytes of ", b), d.Bytes(), b)
	return true
}

func TestP7_4LoadSmall(t *testing.T) {
	good := 0
	var walk func(letters, b []byte, most int)
	walk = func(letters, b []byte, most int) {
		if loads(t, 1, b) {
			good++
		}
		for _, c := range letters {
			if len(b) < most {
				walk(letters, append(b[:len(b):len(b)], c), most)
			}
		}
	}
	walk([]byte{0, 1, 2, 62, 63, 64, 65, 127, 128, 129, 255}, nil, 5)
	walk([]byte{0, 1, 2}, nil, 8)
	if good < 300 {
		t.Errorf("only %d were good", good)
	}
}

func TestP7_4LoadNodes(t *testing.T) {
	for _, c := range []struct {
		b    []byte
		want bool
	}{
		{numbers(0), true},
		{numbers(0, 0), false},
		{numbers(1), false},
		{numbers(1, 0), false},
		{numbers(1, 0, 0), false},
		{numbers(1, 0, 0, 0), false},
		{numbers(1, 0, 0, 1), true},
		{numbers(1, 0, 0, 1, 0), false},
		{numbers(1, 0, 0, 1, 0, 1, 1), false},
		{numbers(2, 0, 0, 1), false},
		{numbers(1, 0, math.MaxUint64, 1<<40), true},
		{numbers(1, 0, math.MaxUint64, 1<<40+1), false},
		{numbers(1, 0, 0, math.MaxUint64), false},
		{numbers(1, 0, 0, 1<<63), false},
		{numbers(1, 1, 1<<63-1, 1), true},
		{numbers(1, 1, 1<<63, 1), false},
		{numbers(1, 64, 0, 1), true},
		{numbers(1, 64, 1, 1), false},
		{numbers(1, 65, 0, 1), false},
		{numbers(1, math.MaxUint64, 0, 1), false},
		{numbers(1, 1<<63, 0, 1), false},
		{numbers(2, 0, 1, 1, 0, 2, 1), true},
		{numbers(2, 0, 2, 1, 0, 1, 1), false},
		{numbers(2, 0, 1, 1, 0, 1, 1), false},
		{numbers(2, 1, 1, 1, 0, 2, 1), false},
		{numbers(2, 0, 2, 1, 1, 1, 1), true},
		{numbers(2, 0, 2, 1<<40, 1, 1, 1<<40), true},
		{numbers(3, 0, 2, 5, 64, 0, 5, 64, 0, 5), false},
		{numbers(math.MaxUint64, 0, 0, 1), false},
		{numbers(1<<63, 0, 0, 1), false},
		{slices.Concat(numbers(1, 0), slices.Repeat([]byte{255}, 9), []byte{2, 1}), false},
		{slices.Concat(numbers(1, 0), []byte{128, 0, 1}), false},
		{slices.Concat(numbers(1, 0), slices.Repeat([]byte{128}, 12)), false},
	} {
		same(t, fmt.Sprint("Load of ", c.b), loads(t, 3, c.b), c.want)
	}
	for level := range 70 {
		for length := range 65 {
			for _, prefix := range []uint64{1 << length >> 1, 1<<length - 1} {
				loads(t, 2, numbers(1, uint64(level), prefix, 1))
			}
		}
	}
}

func TestP7_4LoadMostNodes(t *testing.T) {
	for k := 1; k <= 64; k++ {
		most := 3*k + 64
		l := []uint64{0}
		for i := range most + 1 {
			l = append(l, 0, uint64(i)*uint64(i), 1<<40)
			l[0]++
			same(t, fmt.Sprint(i+1, " nodes"), loads(t, k, numbers(l...)), i < most)
		}
		l[0] = uint64(most)
		d, _ := digest.Load(k, numbers(l[:1+3*most]...))
		same(t, "Count", d.Count(), most<<40)
		d.Insert(math.MaxUint64)
		if n := len(d.Nodes()); n >= most {
			t.Errorf("k %d: %d nodes when compressed", k, n)
		}
	}
}

func TestP7_4LoadErrors(t *testing.T) {
	for _, k := range []int{math.MinInt, -1, 0, 65, math.MaxInt} {
		for _, b := range [][]byte{nil, {0}, {255}, {1, 0, 0, 1}} {
			d, e := digest.Load(k, b)
			same(t, "k", e, api.ErrArg)
			same(t, "k", d == nil, true)
		}
	}
	for _, b := range [][]byte{nil, {}} {
		d, e := digest.Load(1, b)
		same(t, "no bytes", e, api.ErrCorrupt)
		same(t, "no bytes", d == nil, true)
	}
}

func TestP7_4LoadDamaged(t *testing.T) {
	whole := filled(2, draws(150)...)
	b := whole.Bytes()
	same(t, "whole", loads(t, 2, b), true)
	for n := range b {
		same(t, fmt.Sprint("a beginning of ", n), loads(t, 2, b[:n]), false)
		for bit := range 8 {
			c := slices.Clone(b)
			c[n] ^= 1 << bit
			loads(t, 2, c)
		}
	}
	same(t, "one more", loads(t, 2, append(slices.Clone(b), 0)), false)
	d, _ := digest.Load(2, b)
	clear(b)
	same(t, "bytes changed behind", d.Nodes(), whole.Nodes())
}

func TestP7_4LoadUndoesBytes(t *testing.T) {
	for _, k := range []int{1, 5, 64} {
		for name, l := range streams(400) {
			d, m := digest.New(k), newModel(k)
			for i, x := range l {
				o, e := digest.Load(k, d.Bytes())
				same(t, "Load", e, api.OK)
				check(t, fmt.Sprint(k, name, i), o, m)
				d = o // which goes on
				d.Insert(x)
				m.insert(x)
			}
		}
	}
	d := many(3, 8, 40)
	o, e := digest.Load(3, d.Bytes())
	same(t, "2^40", e, api.OK)
	same(t, "2^40", o.Nodes(), d.Nodes())
	_, e = digest.Load(3, many(3, 8, 41).Bytes())
	same(t, "2^41 of one node", e, api.ErrCorrupt)
}

// bounds holds a digest against all the numbers that it was given.
func bounds(t *testing.T, what string, k int, d *digest.Digest, all []uint64) {
	t.Helper()
	n := len(all)
	same(t, what+": Count", d.Count(), n)
	counted := 0
	for _, node := range d.Nodes() {
		counted += node.Count
		if node.Level > 0 && node.Count > n/k {
			t.Errorf("%s: %v counts more than %d", what, node, n/k)
		}
	}
	same(t, what+": all are counted", counted, n)
	if l := d.Nodes(); len(l) > 3*k+64 {
		t.Errorf("%s: %d nodes", what, len(l))
	}
	sorted := slices.Clone(all)
	slices.Sort(sorted)
	for r := 1; r <= n; r++ {
		v, ok := d.Rank(r)
		below, found := slices.BinarySearch(sorted, v)
		upTo := below
		for found && upTo < n && sorted[upTo] == v {
			upTo++
		}
		if !ok || below >= r+64*(n/k) || upTo < r-64*(n/k) {
			t.Errorf("%s: Rank(%d) of %d: %d %t, with %d below it and %d up to it", what, r, n, v, ok, below, upTo)
		}
		if n < k && sorted[r-1] != v {
			t.Errorf("%s: Rank(%d) of %d: %d", what, r, n, v)
		}
	}
}

func TestP7_5And6(t *testing.T) {
	for _, k := range []int{1, 2, 8, 33, 64} {
		for name, l := range streams(1500) {
			d := filled(k, l[:1000]...)
			bounds(t, fmt.Sprint(k, name), k, d, l[:1000])
			slices.Sort(l)
			bounds(t, fmt.Sprint(k, name, " rising"), k, filled(k, l...), l)
			slices.Reverse(l)
			bounds(t, fmt.Sprint(k, name, " falling"), k, filled(k, l...), l)
		}
	}
}

func TestP7_5And6Merges(t *testing.T) {
	for _, k := range []int{1, 8, 64} {
		for name, all := range streams(900) {
			for parts := 2; parts <= 11; parts += 3 {
				l, lists := make([]*digest.Digest, parts), make([][]uint64, parts)
				for i := range l {
					l[i] = digest.New(k)
				}
				for i, x := range all {
					at := (i*i + i) % parts
					l[at].Insert(x)
					lists[at] = append(lists[at], x)
				}
				for len(l) > 1 { // a tree of merges
					end := len(l) - 1
					same(t, "Merge", l[0].Merge(l[end]), api.OK)
					lists[0] = append(lists[0], lists[end]...)
					l, lists = append(l[1:end:end], l[0]), append(lists[1:end:end], lists[0])
					bounds(t, fmt.Sprint(k, name, parts), k, l[len(l)-1], lists[len(l)-1])
				}
			}
		}
	}
}

func TestP7_6Exact(t *testing.T) { // B is 0: nothing is compressed
	d := filled(64, draws(63)...)
	l := draws(63)
	slices.Sort(l)
	for i, want := range l {
		v, _ := d.Rank(i + 1)
		same(t, "fewer than k", v, want)
	}
}

func TestCopy(t *testing.T) {
	d, m := filled(1, 5, 6), newModel(1)
	m.insert(5)
	m.insert(6)
	o := d.Copy()
	check(t, "alike", o, m)
	o.Insert(7)
	check(t, "the first stays", d, m)
	d.Insert(8)
	same(t, "the other stays", o.Nodes(), "[{0 5 1} {0 6 1} {0 7 1}]")
	same(t, "they merge", d.Merge(o), api.OK)
	same(t, "they merge", d.Nodes(), "[{0 5 2} {0 6 2} {0 7 1} {0 8 1}]")
	none := digest.New(3).Copy()
	same(t, "of none", none.Bytes(), "[0]")
	none.Insert(4)
	same(t, "of none", none.Nodes(), "[{0 4 1}]")
	same(t, "k", none.Merge(filled(3, 4)), api.OK)
	same(t, "k", none.Merge(filled(4, 4)), api.ErrArg)
	for _, k := range []int{1, 9} {
		d := filled(k, draws(500)...)
		o := d.Copy()
		for _, x := range draws(700)[500:] {
			d.Insert(x)
			o.Insert(x)
		}
		same(t, "both go on alike", o.Bytes(), d.Bytes())
		same(t, "both go on alike", o.Count(), 700)
	}
}

func TestMadeByNoCall(t *testing.T) {
	for _, d := range []*digest.Digest{nil, {}} {
		d.Insert(5)
		same(t, "Count", d.Count(), 0)
		same(t, "Nodes", len(d.Nodes()), 0)
		same(t, "Bytes", len(d.Bytes()), 0)
		same(t, "Copy", d.Copy() == nil, true)
		same(t, "Merge", d.Merge(digest.New(2)), api.ErrMade)
		same(t, "Merge with itself", d.Merge(d), api.ErrMade)
		for r := -1; r < 3; r++ {
			v, ok := d.Rank(r)
			same(t, "Rank", fmt.Sprint(v, ok), "0 false")
		}
	}
}

func TestBytesAreNew(t *testing.T) {
	d := filled(4, 1, 2)
	for _, d := range []*digest.Digest{d, digest.New(4)} {
		want := fmt.Sprint(d.Bytes())
		b := d.Bytes()
		for i := range b[:cap(b)] {
			b[:cap(b)][i] = 99
		}
		same(t, "again", d.Bytes(), want)
	}
}
