package run_test

import (
	"bytes"
	"strconv"
	"strings"
	"testing"

	"pedigree/api"
	"pedigree/disk"
	"pedigree/run"
)

// writes tells if Write answers another error.
func writes(t *testing.T, what string, d *disk.Disk, name string, want api.Errno, l ...api.Counted) {
	t.Helper()
	if e := run.Write(d, name, l...); e != want {
		t.Errorf("%s: Write: %d, not %d", what, e, want)
	}
}

func TestWrite(t *testing.T) { // P7.2
	for i, l := range runs() {
		in, want := deep(l), filed(paged(l)...)
		if len(want) > api.MaxFile {
			continue
		}
		d := newDisk(t, api.MaxRoom)
		put(t, d, "other", []byte("abc"))
		writes(t, "run "+strconv.Itoa(i), d, "r", api.OK, in...)
		if b := content(t, d, "r"); !bytes.Equal(b, want) || len(d.Names()) != 2 || string(content(t, d, "other")) != "abc" {
			t.Errorf("run %d: %q, % x, not % x", i, d.Names(), b, want)
		}
		if changes, sectors, sizes := d.Loose(); changes != 1 || sectors != 0 || sizes != 0 {
			t.Errorf("run %d: loose are %d, %d, %d", i, changes, sectors, sizes)
		}
		if !same(in, l) {
			t.Errorf("run %d was changed", i)
		}
	}
	for _, name := range []string{"r", "\x00", "run.7", strings.Repeat("n", api.MaxFName)} {
		d := newDisk(t, 10)
		writes(t, name, d, name, api.OK, entry(1, num(5)))
		if r, e := run.Open(d, name); e != api.OK || r.Name() != name {
			t.Errorf("%q: %d", name, e)
		}
	}
}

// TestWriteSteps: a fuse stops Write at each of its modifying calls, behind which the disk is as the document has it, whatever a loss of power keeps.
func TestWriteSteps(t *testing.T) { // P7.2
	for _, l := range [][]api.Counted{nil, {entry(1, num(5))}, numbered(60), {wide('1', 100), wide('2', 157)}} {
		b := filed(paged(l)...)
		calls := []func(d *disk.Disk) api.Errno{
			func(d *disk.Disk) api.Errno { return d.Create("r") },
			func(d *disk.Disk) api.Errno { return d.Write("r", 0, b) },
			func(d *disk.Disk) api.Errno { return d.Sync("r") },
		}
		for n := range len(calls) + 2 {
			d, by := newDisk(t, 100), newDisk(t, 100)
			put(t, d, "other", []byte("abc"))
			put(t, by, "other", []byte("abc"))
			want := api.ErrDown
			if n >= len(calls) {
				want = api.OK
			}
			ok(t, d.Fuse(n))
			writes(t, "fuse "+strconv.Itoa(n), d, "r", want, l...)
			if d.Down() != (n <= len(calls)) {
				t.Errorf("fuse %d: down %t", n, d.Down())
			}
			for _, call := range calls[:min(n, len(calls))] {
				ok(t, call(by))
			}
			if now, then := shown(t, d), shown(t, by); now != then {
				t.Errorf("fuse %d: the disk is\n%s\nnot\n%s", n, now, then)
			}
		}
	}
}

// TestWriteFails: the errors of Write, in their order, and what is left then.
func TestWriteFails(t *testing.T) { // P7.2
	a := entry(1, num(5))
	for what, l := range wrongs() {
		writes(t, what, nil, "r", api.ErrRun, l...)
		writes(t, what, &disk.Disk{}, "", api.ErrRun, l...)
		d := newDisk(t, 10)
		put(t, d, "r", []byte("abc"))
		before := shown(t, d)
		for _, name := range []string{"r", "s", "", strings.Repeat("n", 65)} {
			writes(t, what, d, name, api.ErrRun, l...)
		}
		if now := shown(t, d); now != before {
			t.Errorf("%s: the disk is\n%s\nnot\n%s", what, now, before)
		}
		ok(t, d.Fuse(0))
		writes(t, what, d, "r", api.ErrRun, l...)
	}
	made := newDisk(t, 10)
	taken := *made
	for _, d := range []*disk.Disk{nil, {}, &taken} {
		writes(t, "no disk", d, "r", api.ErrNil, a)
		writes(t, "no disk, no name", d, "", api.ErrNil, a)
	}
	d := newDisk(t, 10)
	put(t, d, "r", []byte("abc"))
	before := shown(t, d)
	writes(t, "no name", d, "", api.ErrName, a)
	writes(t, "a long name", d, strings.Repeat("n", 65), api.ErrName)
	writes(t, "a name that is taken", d, "r", api.ErrExists, a)
	if now := shown(t, d); now != before {
		t.Errorf("the disk is\n%s\nnot\n%s", now, before)
	}
	ok(t, d.Fuse(0))
	writes(t, "down", d, "r", api.ErrDown, a)
	writes(t, "down, no name", d, "", api.ErrDown, a)
}

// TestWriteNoRoom: where the bytes find no room, there is a file without bytes.
func TestWriteNoRoom(t *testing.T) { // P7.2
	full := newDisk(t, 3)
	put(t, full, "other", make([]byte, 65))
	writes(t, "no room", full, "r", api.ErrFull, numbered(60)...)
	if b := content(t, full, "r"); len(b) != 0 || len(full.Names()) != 2 {
		t.Errorf("%q, % x", full.Names(), b)
	}
	writes(t, "just room", full, "s", api.OK, numbered(1)...)
	var l []api.Counted
	for i := range int64(400) {
		c := widest()
		c.T[7] = num(i)
		l = append(l, c)
	}
	n := api.MaxFile / len(filed(l[:1]))
	l = l[:n+2]
	d := newDisk(t, api.MaxRoom)
	writes(t, "not too many bytes", d, "r", api.OK, l[:n]...)
	writes(t, "too many bytes", d, "s", api.ErrLong, l...)
	if b := content(t, d, "s"); len(b) != 0 || !bytes.Equal(content(t, d, "r"), filed(paged(l[:n])...)) {
		t.Errorf("%d bytes", len(b))
	}
	if n, k := opened(t, d).Len(); n != len(l)-2 || k != len(l)-2 {
		t.Errorf("Len: %d, %d, not %d", n, k, len(l)-2)
	}
	many := newDisk(t, 300)
	for i := range api.MaxFiles {
		ok(t, many.Create("f"+strconv.Itoa(i)))
	}
	writes(t, "too many files", many, "r", api.ErrMany, numbered(1)...)
	writes(t, "too many files, one of them", many, "f7", api.ErrExists, numbered(1)...)
	if len(many.Names()) != api.MaxFiles {
		t.Errorf("%d files", len(many.Names()))
	}
}

// TestWriteLosses: behind SyncDir a run stays, whatever a loss of power keeps.
func TestWriteLosses(t *testing.T) { // P7.2, P7.5
	l := numbered(70)
	d := newDisk(t, 100)
	writes(t, "a run", d, "r", api.OK, l...)
	ok(t, d.SyncDir())
	for x := range losses(t, d) {
		holds(t, "behind a loss", opened(t, x), l)
	}
}

// holds tells if a run has other pages than entries have.
func holds(t *testing.T, what string, r *run.Run, l []api.Counted) {
	t.Helper()
	want := paged(l)
	if n, k := r.Len(); n != len(want) || k != len(l) {
		t.Fatalf("%s: Len: %d, %d, not %d, %d", what, n, k, len(want), len(l))
	}
	for i, p := range want {
		if x, e := r.Page(i); e != api.OK || !same(x, p) {
			t.Fatalf("%s: page %d: %v, %d, not %v", what, i, x, e, p)
		}
		if f, e := r.Fence(i); e != api.OK || order(f, p[0].T) != 0 {
			t.Fatalf("%s: fence %d: %v, %d, not %v", what, i, f, e, p[0].T)
		}
	}
}
