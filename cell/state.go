package cell

import (
	"math"
	"strings"

	"talus/api"
	"talus/digest"
	"talus/heavy"
	"talus/kmv"
	"talus/order"
	"talus/value"
	"talus/wide"
)

// state is what a measure keeps of the values that are no Nulls.
type state interface {
	take(v api.Value, id int) // one value, and its id
	merge(o state)            // what another state of the same measure keeps, too
}

// begin is the state of a measure of no values; nil, if there is none of a column of this kind.
func begin(measure, kind int, s api.Settings) state {
	if kind < api.Int || kind > api.Bool {
		return nil
	}
	switch measure {
	case api.MeasureCount:
		return &count{}
	case api.MeasureSum:
		if kind == api.Int {
			return &sum{}
		}
	case api.MeasureMin:
		return &least{}
	case api.MeasureMax:
		return &greatest{}
	case api.MeasureDistinct:
		return &distinct{kmv.New(s)}
	case api.MeasureQuantile:
		if kind == api.Int || kind == api.Float {
			return &quantile{kind, digest.New(s.K)}
		}
	case api.MeasureTop:
		return &top{heavy.New(s.M)}
	}
	return nil
}

// plus adds counts; beyond all ints the first one stays as it is, as sums do.
func plus(a, b int) int {
	if a > math.MaxInt-b {
		return a
	}
	return a + b
}

// copied shares no memory with v.
func copied(v api.Value) api.Value {
	v.S = strings.Clone(v.S)
	return v
}

type count struct{ n int }

func (c *count) take(api.Value, int) { c.n = plus(c.n, 1) }

func (c *count) merge(o state) {
	if its, ok := o.(*count); ok {
		c.n = plus(c.n, its.n)
	}
}

type sum struct {
	all api.Wide
	n   int
}

func (s *sum) take(v api.Value, _ int) { s.add(wide.Of(v.N), 1) }

func (s *sum) merge(o state) {
	if its, ok := o.(*sum); ok {
		s.add(its.all, its.n)
	}
}

func (s *sum) add(w api.Wide, n int) {
	if all, ok := wide.Add(s.all, w); ok {
		s.all = all
	}
	s.n = plus(s.n, n)
}

// least has a Null, as long as there was no value.
type least struct{ v api.Value }

func (l *least) take(v api.Value, _ int) {
	if l.v.Kind == api.Null || value.Cmp(v, l.v) < 0 {
		l.v = copied(v)
	}
}

func (l *least) merge(o state) {
	if its, ok := o.(*least); ok && its.v.Kind != api.Null {
		l.take(its.v, 0)
	}
}

// greatest has a Null, as long as there was no value: it is below all others.
type greatest struct{ v api.Value }

func (g *greatest) take(v api.Value, _ int) {
	if value.Cmp(v, g.v) > 0 {
		g.v = copied(v)
	}
}

func (g *greatest) merge(o state) {
	if its, ok := o.(*greatest); ok {
		g.take(its.v, 0)
	}
}

type distinct struct{ sketch *kmv.Sketch }

func (d *distinct) take(_ api.Value, id int) { d.sketch.Insert(uint64(id)) }

func (d *distinct) merge(o state) {
	if its, ok := o.(*distinct); ok {
		d.sketch.Merge(its.sketch)
	}
}

// quantile is of a column of a kind whose values have keys.
type quantile struct {
	kind int
	keys *digest.Digest
}

func (q *quantile) take(v api.Value, _ int) {
	if q.kind == api.Int {
		q.keys.Insert(order.IntKey(v.N))
	} else {
		q.keys.Insert(order.Key(v.N))
	}
}

// merge does not ask whether the digest is full: it then takes no more, as it does of single values.
func (q *quantile) merge(o state) {
	if its, ok := o.(*quantile); ok {
		q.keys.Merge(its.keys)
	}
}

func (q *quantile) at(mille int) api.Value {
	key, ok := q.keys.Rank(digest.Target(q.keys.Count(), mille))
	switch {
	case !ok:
		return api.Value{}
	case q.kind == api.Int:
		return api.Value{Kind: api.Int, N: order.IntBack(key)}
	}
	return api.Value{Kind: api.Float, N: order.Back(key)}
}

// top is not asked whether it is full, either.
type top struct{ sketch *heavy.Sketch }

func (t *top) take(_ api.Value, id int) { t.sketch.Insert(id) }

func (t *top) merge(o state) {
	if its, ok := o.(*top); ok {
		t.sketch.Merge(its.sketch)
	}
}
