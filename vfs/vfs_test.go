package vfs_test

import (
	"bytes"
	"math"
	"slices"
	"strconv"
	"strings"
	"testing"
	"unsafe"

	"talus/api"
	"talus/vfs"
)

func wantErr(t *testing.T, what string, got, want api.Errno) {
	t.Helper()
	if got != want {
		t.Errorf("%s: %v, want %v", what, got, want)
	}
}

func wantInt(t *testing.T, what string, got, want int) {
	t.Helper()
	if got != want {
		t.Errorf("%s: %d, want %d", what, got, want)
	}
}

func wantRead(t *testing.T, d *vfs.Disk, name, want string) {
	t.Helper()
	b, e := d.Read(name)
	if e != api.OK || string(b) != want {
		t.Errorf("Read(%s): %q %v, want %q", name, b, e, want)
	}
}

func wantPending(t *testing.T, d *vfs.Disk, name string, want int) {
	t.Helper()
	n, e := d.Pending(name)
	if e != api.OK || n != want {
		t.Errorf("Pending(%s): %d %v, want %d", name, n, e, want)
	}
}

func wantList(t *testing.T, d *vfs.Disk, want ...string) {
	t.Helper()
	if got := d.List(); !slices.Equal(got, want) {
		t.Errorf("List: %q, want %q", got, want)
	}
}

// laid is a disk whose file has bytes that were synced, and others that are pending.
func laid(t *testing.T, name, synced, pending string) *vfs.Disk {
	t.Helper()
	d := vfs.New()
	lay(t, d, name, synced, pending)
	return d
}

func lay(t *testing.T, d *vfs.Disk, name, synced, pending string) {
	t.Helper()
	wantErr(t, "Create", d.Create(name), api.OK)
	wantErr(t, "Write", d.Write(name, []byte(synced)), api.OK)
	wantErr(t, "Sync", d.Sync(name), api.OK)
	wantErr(t, "Write", d.Write(name, []byte(pending)), api.OK)
}

// filled is a disk with n files, f0 and so on.
func filled(t *testing.T, n int) *vfs.Disk {
	t.Helper()
	d := vfs.New()
	for i := range n {
		wantErr(t, "Create", d.Create("f"+strconv.Itoa(i)), api.OK)
	}
	return d
}

// calls are all calls of a disk that answer an Errno, of one name.
func calls(d *vfs.Disk, name string) map[string]func() api.Errno {
	return map[string]func() api.Errno{
		"Create": func() api.Errno { return d.Create(name) },
		"Write":  func() api.Errno { return d.Write(name, []byte("w")) },
		"Sync":   func() api.Errno { return d.Sync(name) },
		"Rename": func() api.Errno { return d.Rename(name, name) },
		"Remove": func() api.Errno { return d.Remove(name) },
		"Read": func() api.Errno {
			b, e := d.Read(name)
			if e != api.OK && len(b) > 0 {
				return -1
			}
			return e
		},
		"Pending": func() api.Errno {
			n, e := d.Pending(name)
			if e != api.OK && n != 0 {
				return -1
			}
			return e
		},
		"Spoil": func() api.Errno { return d.Spoil(name, 0, 0) },
	}
}

func TestP1_1Good(t *testing.T) {
	good := []string{"a", "z", "0", "9", ".", "-", "manifest.new", "log-0", "seg-1-t", "..", strings.Repeat("x", 32)}
	for _, s := range good {
		if !vfs.Good(s) {
			t.Errorf("Good(%q): false", s)
		}
	}
	bad := []string{"", strings.Repeat("x", 33), "A", "Z", "a_b", "a b", "a/b", "a\x00", "\x00", "`", "{", ":", ",", "é", "ａ", "a\n", "\xff"}
	for _, s := range bad {
		if vfs.Good(s) {
			t.Errorf("Good(%q): true", s)
		}
	}
	for c := range 256 {
		want := strings.IndexByte("abcdefghijklmnopqrstuvwxyz0123456789.-", byte(c)) >= 0
		if got := vfs.Good("a" + string([]byte{byte(c)})); got != want {
			t.Errorf("Good of byte %d: %v", c, got)
		}
	}
}

func TestP1_1Create(t *testing.T) {
	d := laid(t, "a", "xyz", "pq")
	wantErr(t, "Create anew", d.Create("a"), api.OK)
	wantRead(t, d, "a", "")
	wantPending(t, d, "a", 0)
	wantList(t, d, "a")

	d = filled(t, api.MaxFiles)
	ops := d.Ops()
	wantErr(t, "one too many", d.Create("more"), api.ErrFull)
	wantInt(t, "Ops", d.Ops(), ops)
	wantInt(t, "files", len(d.List()), api.MaxFiles)
	wantErr(t, "one that is there", d.Create("f0"), api.OK)
	wantErr(t, "Rename", d.Rename("f0", "other"), api.OK)
	wantErr(t, "still full", d.Create("more"), api.ErrFull)
	wantErr(t, "Remove", d.Remove("other"), api.OK)
	wantErr(t, "room again", d.Create("more"), api.OK)
}

func TestP1_1Write(t *testing.T) {
	d := vfs.New()
	wantErr(t, "no such file", d.Write("a", []byte("x")), api.ErrNone)
	wantErr(t, "no such file, no bytes", d.Write("a", nil), api.ErrNone)
	wantErr(t, "no such file, too much", d.Write("a", make([]byte, api.MaxFile+1)), api.ErrNone)
	wantErr(t, "Create", d.Create("a"), api.OK)
	wantErr(t, "Write", d.Write("a", []byte("xy")), api.OK)
	wantErr(t, "Write", d.Write("a", nil), api.OK)
	wantErr(t, "Write", d.Write("a", []byte{}), api.OK)
	wantErr(t, "Write", d.Write("a", []byte("z\x00\xff")), api.OK)
	wantRead(t, d, "a", "xyz\x00\xff")
	wantPending(t, d, "a", 5)
	wantInt(t, "Ops", d.Ops(), 5)
}

func TestP1_1WriteFull(t *testing.T) {
	d := vfs.New()
	d.Create("a")
	wantErr(t, "all at once, one too many", d.Write("a", make([]byte, api.MaxFile+1)), api.ErrFull)
	wantRead(t, d, "a", "")
	wantErr(t, "one less", d.Write("a", make([]byte, api.MaxFile-1)), api.OK)
	wantErr(t, "two more", d.Write("a", []byte("xy")), api.ErrFull)
	wantErr(t, "one more", d.Write("a", []byte("x")), api.OK)
	wantErr(t, "Sync", d.Sync("a"), api.OK)
	wantErr(t, "too many behind a Sync", d.Write("a", []byte("x")), api.ErrFull)
	wantErr(t, "none more", d.Write("a", nil), api.OK)
	wantInt(t, "Ops", d.Ops(), 5)
	b, _ := d.Read("a")
	wantInt(t, "bytes", len(b), api.MaxFile)
	wantErr(t, "another file", d.Create("b"), api.OK)
	wantErr(t, "all of it", d.Write("b", make([]byte, api.MaxFile)), api.OK)
}

func TestP1_1Sync(t *testing.T) {
	d := laid(t, "a", "xyz", "pq")
	lay(t, d, "b", "1", "2")
	wantPending(t, d, "a", 2)
	wantErr(t, "Sync", d.Sync("a"), api.OK)
	wantPending(t, d, "a", 0)
	wantPending(t, d, "b", 1)
	wantRead(t, d, "a", "xyzpq")
	wantErr(t, "Sync again", d.Sync("a"), api.OK)
	wantErr(t, "no such file", d.Sync("c"), api.ErrNone)
}

func TestP1_1Rename(t *testing.T) {
	d := laid(t, "a", "xyz", "pq")
	lay(t, d, "b", "1", "2")
	wantErr(t, "Rename", d.Rename("a", "b"), api.OK)
	wantList(t, d, "b")
	wantRead(t, d, "b", "xyzpq")
	wantPending(t, d, "b", 2)
	wantErr(t, "gone", d.Rename("a", "b"), api.ErrNone)
	wantErr(t, "gone, to itself", d.Rename("a", "a"), api.ErrNone)

	ops := d.Ops()
	wantErr(t, "to itself", d.Rename("b", "b"), api.OK)
	wantInt(t, "Ops", d.Ops(), ops+1)
	wantList(t, d, "b")
	wantRead(t, d, "b", "xyzpq")
	wantPending(t, d, "b", 2)
	wantErr(t, "to a new name", d.Rename("b", "c"), api.OK)
	wantList(t, d, "c")
}

func TestP1_1Remove(t *testing.T) {
	d := laid(t, "a", "xyz", "pq")
	wantErr(t, "no such file", d.Remove("b"), api.ErrNone)
	wantErr(t, "Remove", d.Remove("a"), api.OK)
	wantList(t, d)
	wantErr(t, "gone", d.Remove("a"), api.ErrNone)
	wantErr(t, "Create", d.Create("a"), api.OK)
	wantRead(t, d, "a", "")
}

func TestP1_2OpsAreTheFive(t *testing.T) {
	d := vfs.New()
	wantInt(t, "Ops", d.Ops(), 0)
	steps := []func() api.Errno{
		func() api.Errno { return d.Create("a") },
		func() api.Errno { return d.Write("a", []byte("x")) },
		func() api.Errno { return d.Sync("a") },
		func() api.Errno { return d.Rename("a", "b") },
		func() api.Errno { return d.Remove("b") },
	}
	for i, step := range steps {
		wantErr(t, "step", step(), api.OK)
		wantInt(t, "Ops", d.Ops(), i+1)
	}
	d.Create("a")
	d.Write("a", []byte("x"))
	d.Read("a")
	d.List()
	d.Pending("a")
	d.Spoil("a", 0, 0)
	d.Cut(9, nil)
	d.Start()
	d.On()
	vfs.Good("a")
	wantInt(t, "Ops", d.Ops(), 7)
}

func TestP1_2ErrorsAreNoOperations(t *testing.T) {
	d := laid(t, "a", "", "x")
	ops := d.Ops()
	d.Cut(1, nil)
	for _, name := range []string{"none", "BAD"} {
		for what, call := range calls(d, name) {
			if name == "none" && what == "Create" {
				continue
			}
			if e := call(); e != api.ErrNone && e != api.ErrName {
				t.Errorf("%s(%s): %v", what, name, e)
			}
		}
	}
	wantErr(t, "too much", d.Write("a", make([]byte, api.MaxFile)), api.ErrFull)
	wantInt(t, "Ops", d.Ops(), ops)
	if !d.On() {
		t.Error("an error was cut")
	}
	wantErr(t, "the cut one", d.Sync("a"), api.ErrPower)
	wantInt(t, "Ops, the cut one too", d.Ops(), ops+1)
	d.Create("b")
	d.Sync("a")
	wantInt(t, "Ops, without power", d.Ops(), ops+1)
}

func TestP1_2ReadAndPending(t *testing.T) {
	d := laid(t, "a", "xyz", "pq")
	wantRead(t, d, "a", "xyzpq")
	wantPending(t, d, "a", 2)
	for _, call := range []string{"Read", "Pending", "Spoil"} {
		wantErr(t, call, calls(d, "b")[call](), api.ErrNone)
	}
}

func TestP1_2List(t *testing.T) {
	d := vfs.New()
	wantList(t, d)
	for _, s := range []string{"b", "a", "ab", "0", "-", ".", "a.b", "a-b", "z", "9"} {
		d.Create(s)
	}
	wantList(t, d, "-", ".", "0", "9", "a", "a-b", "a.b", "ab", "b", "z")
}

func TestP1_2Spoil(t *testing.T) {
	d := laid(t, "a", "\x00", "\x00\x00")
	ops := d.Ops()
	for bit := range 8 {
		wantErr(t, "Spoil", d.Spoil("a", 1, bit), api.OK)
		wantRead(t, d, "a", string([]byte{0, 1<<(bit+1) - 1, 0}))
	}
	wantErr(t, "turned back", d.Spoil("a", 1, 7), api.OK)
	wantErr(t, "first byte", d.Spoil("a", 0, 0), api.OK)
	wantErr(t, "last byte", d.Spoil("a", 2, 1), api.OK)
	wantRead(t, d, "a", "\x01\x7f\x02")
	bad := [][2]int{{-1, 0}, {3, 0}, {0, -1}, {0, 8}, {math.MinInt, 0}, {math.MaxInt, 0}, {0, math.MinInt}, {0, math.MaxInt}, {3, 8}}
	for _, p := range bad {
		wantErr(t, "Spoil", d.Spoil("a", p[0], p[1]), api.ErrArg)
	}
	wantErr(t, "no such file", d.Spoil("b", -1, 8), api.ErrNone)
	wantRead(t, d, "a", "\x01\x7f\x02")
	wantPending(t, d, "a", 2)
	wantInt(t, "Ops", d.Ops(), ops)
	d.Create("b")
	wantErr(t, "no bytes", d.Spoil("b", 0, 0), api.ErrArg)
}

func TestP1_3Example(t *testing.T) {
	d := laid(t, "a", "xyz", "pq")
	wantErr(t, "Cut", d.Cut(1, []int{1}), api.OK)
	wantErr(t, "Write", d.Write("a", []byte("r")), api.ErrPower)
	if d.On() {
		t.Error("On behind the cut")
	}
	d.Start()
	if !d.On() {
		t.Error("not On behind Start")
	}
	wantRead(t, d, "a", "xyzp")
	wantPending(t, d, "a", 0)
	wantInt(t, "Ops", d.Ops(), 5)
}

func TestP1_3CutArguments(t *testing.T) {
	d := laid(t, "a", "", "")
	wantErr(t, "below 0", d.Cut(-1, []int{1}), api.ErrArg)
	wantErr(t, "below 0", d.Cut(math.MinInt, nil), api.ErrArg)
	wantErr(t, "far away", d.Cut(math.MaxInt, nil), api.OK)
	wantErr(t, "Write", d.Write("a", nil), api.OK)

	wantErr(t, "Cut", d.Cut(1, nil), api.OK)
	wantErr(t, "below 0 changes nothing", d.Cut(-1, nil), api.ErrArg)
	wantErr(t, "none is planned", d.Cut(0, []int{1}), api.OK)
	wantErr(t, "Write", d.Write("a", nil), api.OK)

	wantErr(t, "Cut", d.Cut(1, nil), api.OK)
	wantErr(t, "below 0", d.Cut(-1, nil), api.ErrArg)
	wantErr(t, "the plan stands", d.Sync("a"), api.ErrPower)
}

func TestP1_3CutCounts(t *testing.T) {
	for n := 1; n <= 5; n++ {
		d := laid(t, "a", "", "")
		wantErr(t, "Cut", d.Cut(n, nil), api.OK)
		for range n - 1 {
			wantErr(t, "ahead of it", d.Write("a", []byte("x")), api.OK)
		}
		wantErr(t, "the n-th", d.Write("a", []byte("x")), api.ErrPower)
		d.Start()
		for range 2 * n {
			wantErr(t, "behind it", d.Write("a", []byte("x")), api.OK)
		}
	}
	d := laid(t, "a", "", "")
	d.Cut(2, nil)
	d.Sync("a")
	d.Cut(2, nil)
	wantErr(t, "a new plan counts from there", d.Sync("a"), api.OK)
	d.Start()
	wantErr(t, "Start with power leaves the plan", d.Sync("a"), api.ErrPower)
}

func TestP1_3OnlyAWriteIsDone(t *testing.T) {
	steps := []func(d *vfs.Disk) api.Errno{
		func(d *vfs.Disk) api.Errno { return d.Create("a") },
		func(d *vfs.Disk) api.Errno { return d.Create("c") },
		func(d *vfs.Disk) api.Errno { return d.Sync("a") },
		func(d *vfs.Disk) api.Errno { return d.Rename("a", "b") },
		func(d *vfs.Disk) api.Errno { return d.Rename("a", "c") },
		func(d *vfs.Disk) api.Errno { return d.Rename("a", "a") },
		func(d *vfs.Disk) api.Errno { return d.Remove("a") },
	}
	for _, step := range steps {
		d := laid(t, "a", "xyz", "pq")
		lay(t, d, "b", "1", "2")
		d.Cut(1, nil)
		wantErr(t, "cut", step(d), api.ErrPower)
		d.Start()
		wantList(t, d, "a", "b")
		wantRead(t, d, "a", "xyz")
		wantRead(t, d, "b", "1")
		wantInt(t, "Ops", d.Ops(), 9)
	}
	d := laid(t, "a", "xyz", "pq")
	d.Cut(1, []int{4})
	wantErr(t, "cut", d.Write("a", []byte("rst")), api.ErrPower)
	d.Start()
	wantRead(t, d, "a", "xyzpqrs")
}

func TestP1_3Keep(t *testing.T) {
	cases := []struct {
		keep       []int
		a, b, c, d string
	}{
		{nil, "A", "B", "", "D"},
		{[]int{}, "A", "B", "", "D"},
		{[]int{0}, "A", "B", "", "D"},
		{[]int{-1}, "A", "B", "", "D"},
		{[]int{math.MinInt}, "A", "B", "", "D"},
		{[]int{1}, "A1", "B", "5", "D7"},
		{[]int{math.MaxInt}, "A123", "B", "56", "D789"},
		{[]int{2, 1}, "A12", "B", "56", "D7"},
		{[]int{2, 3, 1}, "A12", "B", "5", "D78"},
		{[]int{-5, 9, 3, 2}, "A", "B", "56", "D78"},
		{[]int{1, 9, 0, 3, 9, 9}, "A1", "B", "", "D789"},
	}
	for _, c := range cases {
		d := laid(t, "c", "", "56")
		lay(t, d, "a", "A", "123")
		lay(t, d, "d", "D", "789")
		lay(t, d, "b", "B", "")
		d.Cut(1, c.keep)
		wantErr(t, "cut", d.Sync("b"), api.ErrPower)
		d.Start()
		for name, want := range map[string]string{"a": c.a, "b": c.b, "c": c.c, "d": c.d} {
			wantRead(t, d, name, want)
			wantPending(t, d, name, 0)
		}
	}
}

func TestP1_3KeepNamesFilesBehindTheCutOne(t *testing.T) {
	d := laid(t, "b", "", "12")
	lay(t, d, "c", "", "34")
	d.Cut(1, []int{1, 2})
	wantErr(t, "a Create that was cut is no file 0", d.Create("a"), api.ErrPower)
	d.Start()
	wantRead(t, d, "b", "1")
	wantRead(t, d, "c", "34")
}

func TestP1_3WithoutPower(t *testing.T) {
	d := laid(t, "a", "xyz", "pq")
	d.Cut(1, nil)
	d.Sync("a")
	for _, name := range []string{"a", "none", "BAD", ""} {
		for what, call := range calls(d, name) {
			wantErr(t, what+"("+name+")", call(), api.ErrPower)
		}
	}
	wantErr(t, "Cut", d.Cut(1, nil), api.ErrPower)
	wantErr(t, "Cut below 0", d.Cut(-1, nil), api.ErrPower)
	wantList(t, d, "a")
	d.Start()
	wantErr(t, "no plan is left", d.Sync("a"), api.OK)
	wantRead(t, d, "a", "xyz")
}

func TestP1_4SyncedBytesStay(t *testing.T) {
	for n := 1; n <= 4; n++ {
		for keep := -1; keep <= 6; keep++ {
			d := laid(t, "a", "xyz", "pq")
			d.Cut(n, []int{keep})
			d.Write("a", []byte("r"))
			d.Create("b")
			d.Write("a", []byte("s"))
			d.Remove("b")
			d.Start()
			b, e := d.Read("a")
			if e != api.OK || !bytes.HasPrefix(b, []byte("xyz")) || !strings.HasPrefix("xyzpqrs", string(b)) {
				t.Errorf("Cut(%d, %d): %q %v", n, keep, b, e)
			}
		}
	}
}

func TestP1_4WhatStayedIsSynced(t *testing.T) {
	d := laid(t, "a", "xyz", "pq")
	d.Cut(1, []int{1})
	d.Sync("a")
	d.Start()
	d.Write("a", []byte("12"))
	wantPending(t, d, "a", 2)
	d.Cut(1, nil)
	d.Sync("a")
	d.Start()
	wantRead(t, d, "a", "xyzp")
}

func TestR2OrderOfErrors(t *testing.T) {
	d := filled(t, api.MaxFiles)
	wantErr(t, "name ahead of full", d.Create("BAD"), api.ErrName)
	wantErr(t, "name ahead of none", d.Write("BAD", nil), api.ErrName)
	wantErr(t, "from", d.Rename("BAD", "f0"), api.ErrName)
	wantErr(t, "to", d.Rename("f0", "BAD"), api.ErrName)
	wantErr(t, "to ahead of none", d.Rename("none", "BAD"), api.ErrName)
	wantErr(t, "both", d.Rename("", ""), api.ErrName)
	wantErr(t, "none", d.Rename("none", "f0"), api.ErrNone)
	wantErr(t, "name ahead of arg", d.Spoil("BAD", -1, -1), api.ErrName)
	wantErr(t, "none ahead of arg", d.Spoil("none", -1, -1), api.ErrNone)
	wantErr(t, "none ahead of full", d.Write("none", make([]byte, api.MaxFile+1)), api.ErrNone)
	for what, call := range calls(d, "BAD") {
		wantErr(t, what, call(), api.ErrName)
	}
	wantInt(t, "Ops", d.Ops(), api.MaxFiles)
}

func TestR3NothingIsShared(t *testing.T) {
	d := vfs.New()
	d.Create("a")
	room := []byte("xyz....")
	d.Write("a", room[:3])
	if string(room) != "xyz...." {
		t.Errorf("the room behind was changed: %q", room)
	}
	copy(room, "???????")
	d.Write("a", []byte("pq"))
	wantRead(t, d, "a", "xyzpq")

	b, _ := d.Read("a")
	other, _ := d.Read("a")
	for i := range b[:cap(b)] {
		b[:cap(b)][i] = '!'
	}
	wantRead(t, d, "a", "xyzpq")
	if string(other) != "xyzpq" {
		t.Errorf("another answer was changed: %q", other)
	}
	d.Spoil("a", 0, 0)
	if string(other) != "xyzpq" {
		t.Errorf("an answer was changed by Spoil: %q", other)
	}
	l := d.List()
	l[0] = "?"
	wantList(t, d, "a")
}

func TestR3KeepIsNotKept(t *testing.T) {
	d := laid(t, "a", "xyz", "pq")
	keep := []int{1, 7}
	d.Cut(1, keep[:1])
	keep[0] = 2
	d.Sync("a")
	d.Start()
	wantRead(t, d, "a", "xyzp")
	if keep[0] != 2 || keep[1] != 7 {
		t.Errorf("keep was changed: %v", keep)
	}
}

func TestR3NamesAreNotKept(t *testing.T) {
	room := []byte("ab")
	from, to := unsafe.String(&room[0], 1), unsafe.String(&room[1], 1)
	d := vfs.New()
	d.Create(from)
	room[0] = 'c'
	wantList(t, d, "a")
	d.Rename("a", to)
	room[1] = 'd'
	wantList(t, d, "b")
}

func TestR5DisksThatNoCallMade(t *testing.T) {
	for _, d := range []*vfs.Disk{nil, {}, new(vfs.Disk)} {
		for range 2 { // Start must not make one of it
			for _, name := range []string{"a", "BAD", ""} {
				for what, call := range calls(d, name) {
					wantErr(t, what, call(), api.ErrMade)
				}
			}
			wantErr(t, "Cut", d.Cut(1, []int{1}), api.ErrMade)
			wantErr(t, "Cut", d.Cut(-1, nil), api.ErrMade)
			wantList(t, d)
			wantInt(t, "Ops", d.Ops(), 0)
			if d.On() {
				t.Error("On")
			}
			d.Start()
		}
	}
}

func TestNew(t *testing.T) {
	d, other := vfs.New(), vfs.New()
	if d == nil || !d.On() {
		t.Fatal("New has no power")
	}
	d.Create("a")
	wantList(t, other)
	wantInt(t, "Ops", other.Ops(), 0)
}
