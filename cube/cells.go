package cube

import (
	"iter"
	"maps"
	"slices"
	"strings"

	"talus/api"
	"talus/cell"
	"talus/value"
)

// cells are entries by the texts of their keys.
type cells map[string]Entry

// of is the cell of a key; where there was none, a copy of empty, which is kept.
func (l cells) of(key []api.Value, empty *cell.Cell) *cell.Cell {
	text := textOf(key)
	its, found := l[text]
	if !found {
		its = Entry{copiedKey(key), empty.Copy()}
		l[text] = its
	}
	return its.Cell
}

// textOf is another text for each key of the same columns: a text value's own commas stand between quotes.
func textOf(key []api.Value) string {
	var b strings.Builder
	for _, v := range key {
		b.WriteString(value.Text(v))
		b.WriteByte(',')
	}
	return b.String()
}

// copiedKey shares no memory with key, not even that of texts.
func copiedKey(key []api.Value) []api.Value {
	its := slices.Clone(key)
	for i, v := range its {
		its[i].S = strings.Clone(v.S)
	}
	return its
}

func (l cells) copied() cells {
	its := cells{}
	for text, e := range l {
		its[text] = Entry{copiedKey(e.Key), e.Cell.Copy()}
	}
	return its
}

// byKeys tells the entries themselves, by their keys.
func (l cells) byKeys() iter.Seq[Entry] {
	return func(yield func(Entry) bool) {
		for _, e := range slices.SortedFunc(maps.Values(l), func(a, b Entry) int { return CmpKeys(a.Key, b.Key) }) {
			if !yield(e) {
				return
			}
		}
	}
}

func (l cells) list() []Entry { return slices.Collect(l.byKeys()) }
