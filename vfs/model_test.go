package vfs_test

import (
	"slices"
	"strings"
	"testing"

	"talus/api"
	"talus/vfs"
)

// model says again, as plainly as it goes, what a disk is: each file's name, what was synced of it, and what is pending.
type model struct {
	names           []string
	synced, pending map[string]string
	on              bool
	ops, cut        int
	keep            []int
}

func newModel() *model {
	return &model{synced: map[string]string{}, pending: map[string]string{}, on: true}
}

func (m *model) has(name string) bool { return slices.Contains(m.names, name) }

func (m *model) set(name, synced, pending string) {
	if !m.has(name) {
		m.names = append(m.names, name)
		slices.Sort(m.names)
	}
	m.synced[name], m.pending[name] = synced, pending
}

func (m *model) drop(name string) {
	m.names = slices.DeleteFunc(m.names, func(s string) bool { return s == name })
	delete(m.synced, name)
	delete(m.pending, name)
}

func (m *model) blackout() {
	for i, name := range m.names {
		stay := 0
		if len(m.keep) > 0 {
			stay = m.keep[i%len(m.keep)]
		}
		if stay < 0 {
			stay = 0
		}
		p := m.pending[name]
		if stay < len(p) {
			p = p[:stay]
		}
		m.set(name, m.synced[name]+p, "")
	}
	m.on = false
}

// step is one of the five operations: kind c, w, s, r or d of a file, with bytes or another name.
type step struct {
	kind      byte
	name, arg string
}

func (s step) onDisk(d *vfs.Disk) api.Errno {
	switch s.kind {
	case 'c':
		return d.Create(s.name)
	case 'w':
		return d.Write(s.name, []byte(s.arg))
	case 's':
		return d.Sync(s.name)
	case 'r':
		return d.Rename(s.name, s.arg)
	}
	return d.Remove(s.name)
}

func (s step) onModel(m *model) api.Errno {
	if !m.on {
		return api.ErrPower
	}
	if s.kind != 'c' && !m.has(s.name) {
		return api.ErrNone
	}
	m.ops++
	m.cut--
	if m.cut != 0 || s.kind == 'w' {
		s.change(m)
	}
	if m.cut == 0 {
		m.blackout()
		return api.ErrPower
	}
	return api.OK
}

func (s step) change(m *model) {
	synced, pending := m.synced[s.name], m.pending[s.name]
	switch s.kind {
	case 'c':
		m.set(s.name, "", "")
	case 'w':
		m.set(s.name, synced, pending+s.arg)
	case 's':
		m.set(s.name, synced+pending, "")
	case 'r':
		m.drop(s.name)
		m.set(s.arg, synced, pending)
	case 'd':
		m.drop(s.name)
	}
}

func (m *model) differs(d *vfs.Disk) string {
	if d.Ops() != m.ops {
		return "Ops"
	}
	if !slices.Equal(d.List(), m.names) {
		return "List"
	}
	for _, name := range m.names {
		b, e := d.Read(name)
		if e != api.OK || string(b) != m.synced[name]+m.pending[name] {
			return "Read " + name
		}
		n, e := d.Pending(name)
		if e != api.OK || n != len(m.pending[name]) {
			return "Pending " + name
		}
	}
	return ""
}

func tell(l []step) string {
	var b strings.Builder
	for _, s := range l {
		b.WriteString(string(s.kind) + " " + s.name + " " + s.arg + "; ")
	}
	return b.String()
}

// play does the steps on both, of which the cut-th is cut, and tells where they differ.
func play(l []step, cut int, keep []int) string {
	d, m := vfs.New(), newModel()
	for _, s := range []step{{'c', "a", ""}, {'w', "a", "xy"}, {'s', "a", ""}, {'w', "a", "pq"}} {
		s.onDisk(d)
		s.onModel(m)
	}
	d.Cut(cut, keep)
	m.cut, m.keep = cut, keep
	for _, s := range l {
		if got, want := s.onDisk(d), s.onModel(m); got != want {
			return got.Error() + " for " + want.Error()
		}
		if d.On() != m.on {
			return "On"
		}
		if !m.on { // what is behind a cut is looked at, too
			d.Start()
			m.on = true
		}
		if s := m.differs(d); s != "" {
			return s
		}
	}
	return ""
}

// TestP1_4AllShortPlays: each row of four operations, cut at each, is what the chapter's words say.
func TestP1_4AllShortPlays(t *testing.T) {
	steps := []step{
		{'c', "a", ""}, {'c', "b", ""}, {'w', "a", "12"}, {'w', "b", "345"}, {'s', "a", ""}, {'s', "b", ""},
		{'r', "a", "b"}, {'r', "b", "a"}, {'r', "a", "a"}, {'d', "a", ""},
	}
	keeps := [][]int{nil, {1}, {0, 2}, {9, -1}, {2, 1, 5}}
	l := make([]step, 4)
	var grow func(at int)
	grow = func(at int) {
		if at < len(l) {
			for _, s := range steps {
				l[at] = s
				grow(at + 1)
			}
			return
		}
		for cut := range len(l) + 1 {
			for _, keep := range keeps {
				if s := play(l, cut, keep); s != "" {
					t.Fatalf("%s cut %d keep %v: %s", tell(l), cut, keep, s)
				}
			}
		}
	}
	grow(0)
}
