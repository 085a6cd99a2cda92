// Package vfs is layer 1: see shared/doc/01-vfs.md.
package vfs

import (
	"maps"
	"slices"
	"strings"

	"talus/api"
)

// maxName is how many bytes a file's name may have.
const maxName = 32

// Disk is named files.
type Disk struct {
	files map[string]*file // nil of a disk that no call made
	on    bool
	ops   int
	left  int   // operations up to the one that is cut, with it; 0: no cut is planned
	keep  []int // of pending bytes, when the power goes
}

// file is bytes, of which those behind synced are pending.
type file struct {
	bytes  []byte
	synced int
}

// New: an empty one, with power.
func New() *Disk {
	return &Disk{files: map[string]*file{}, on: true}
}

// Good: may a file be called so?
func Good(name string) bool {
	if len(name) < 1 || len(name) > maxName {
		return false
	}
	for i := range len(name) {
		if !goodByte(name[i]) {
			return false
		}
	}
	return true
}

func goodByte(c byte) bool {
	return 'a' <= c && c <= 'z' || '0' <= c && c <= '9' || c == '.' || c == '-'
}

// Create: an empty file.
func (d *Disk) Create(name string) api.Errno {
	e := d.ready(name)
	if e == api.OK && d.files[name] == nil && len(d.files) >= api.MaxFiles {
		e = api.ErrFull
	}
	return d.operate(e, false, func() { d.put(name, &file{}) })
}

// Write: bytes at a file's end.
func (d *Disk) Write(name string, b []byte) api.Errno {
	f, e := d.find(name)
	if e == api.OK && len(b) > api.MaxFile-len(f.bytes) {
		e = api.ErrFull
	}
	return d.operate(e, true, func() { f.bytes = append(f.bytes, b...) })
}

// Sync: a file's bytes stay.
func (d *Disk) Sync(name string) api.Errno {
	f, e := d.find(name)
	return d.operate(e, false, func() { f.synced = len(f.bytes) })
}

// Rename: a file gets another name.
func (d *Disk) Rename(from, to string) api.Errno {
	e := d.ready(from, to)
	if e == api.OK && d.files[from] == nil {
		e = api.ErrNone
	}
	return d.operate(e, false, func() {
		f := d.files[from]
		delete(d.files, from) // ahead of put: both names may be one
		d.put(to, f)
	})
}

// Remove: a file goes.
func (d *Disk) Remove(name string) api.Errno {
	_, e := d.find(name)
	return d.operate(e, false, func() { delete(d.files, name) })
}

// Read: all bytes.
func (d *Disk) Read(name string) ([]byte, api.Errno) {
	f, e := d.find(name)
	if e != api.OK {
		return nil, e
	}
	return append([]byte(nil), f.bytes...), api.OK
}

// List: the names.
func (d *Disk) List() []string {
	if !d.made() {
		return nil
	}
	return slices.Sorted(maps.Keys(d.files))
}

// Pending: how many bytes of a file are.
func (d *Disk) Pending(name string) (int, api.Errno) {
	f, e := d.find(name)
	if e != api.OK {
		return 0, e
	}
	return f.pending(), api.OK
}

// Cut: the n-th operation will fail.
func (d *Disk) Cut(n int, keep []int) api.Errno {
	if e := d.ready(); e != api.OK {
		return e
	}
	if n < 0 {
		return api.ErrArg
	}
	d.left, d.keep = n, append([]int(nil), keep...)
	return api.OK
}

// Start: the power is on.
func (d *Disk) Start() {
	if d.made() {
		d.on = true
	}
}

// On: is it?
func (d *Disk) On() bool {
	return d.made() && d.on
}

// Ops: how many operations there were.
func (d *Disk) Ops() int {
	if !d.made() {
		return 0
	}
	return d.ops
}

// Spoil: a bit is turned.
func (d *Disk) Spoil(name string, at, bit int) api.Errno {
	f, e := d.find(name)
	if e != api.OK {
		return e
	}
	if at < 0 || at >= len(f.bytes) || bit < 0 || bit > 7 {
		return api.ErrArg
	}
	f.bytes[at] ^= 1 << bit
	return api.OK
}

func (d *Disk) made() bool {
	return d != nil && d.files != nil
}

// ready: what is wrong ahead of looking at files.
func (d *Disk) ready(names ...string) api.Errno {
	if !d.made() {
		return api.ErrMade
	}
	if !d.on {
		return api.ErrPower
	}
	for _, name := range names {
		if !Good(name) {
			return api.ErrName
		}
	}
	return api.OK
}

// find: the file of a name; nil beside an error.
func (d *Disk) find(name string) (*file, api.Errno) {
	if e := d.ready(name); e != api.OK {
		return nil, e
	}
	f := d.files[name]
	if f == nil {
		return nil, api.ErrNone
	}
	return f, api.OK
}

// put keeps a copy of the name, as nothing that is handed in is kept.
func (d *Disk) put(name string, f *file) {
	d.files[strings.Clone(name)] = f
}

// operate does one operation, unless e says that something is wrong with it.
// All five go through here, so that none of them is missed by the count or by the cut.
// Of those that are cut only one that lays bytes down is done.
func (d *Disk) operate(e api.Errno, lays bool, do func()) api.Errno {
	if e != api.OK {
		return e
	}
	d.ops++
	cut := d.left == 1
	if d.left > 0 {
		d.left--
	}
	if lays || !cut {
		do()
	}
	if cut {
		d.fail()
		return api.ErrPower
	}
	return api.OK
}

// fail: the power goes, and with it pending bytes, but for those that keep names.
func (d *Disk) fail() {
	for i, name := range d.List() {
		f := d.files[name]
		f.synced += d.stay(i, f.pending())
		f.bytes = f.bytes[:f.synced]
	}
	d.on, d.keep = false, nil
}

// stay: how many of so many pending bytes of file i stay.
func (d *Disk) stay(i, pending int) int {
	if len(d.keep) == 0 {
		return 0
	}
	return min(max(d.keep[i%len(d.keep)], 0), pending)
}

func (f *file) pending() int {
	return len(f.bytes) - f.synced
}
