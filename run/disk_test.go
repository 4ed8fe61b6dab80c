package run_test

import (
	"encoding/hex"
	"iter"
	"strconv"
	"strings"
	"testing"

	"pedigree/api"
	"pedigree/disk"
	"pedigree/run"
)

// newDisk is a new disk.
func newDisk(t *testing.T, room int) *disk.Disk {
	t.Helper()
	d, e := disk.New(room)
	ok(t, e)
	return d
}

// ok stops the test if one of the calls did not succeed.
func ok(t *testing.T, es ...api.Errno) {
	t.Helper()
	for i, e := range es {
		if e != api.OK {
			t.Fatalf("call %d: %d", i, e)
		}
	}
}

// put makes a file of these bytes, in place of what has the name, and fixes it.
func put(t *testing.T, d *disk.Disk, name string, b []byte) {
	t.Helper()
	d.Delete(name)
	ok(t, d.Create(name), d.Write(name, 0, b), d.Sync(name), d.SyncDir())
}

// laid is a disk with a file r of these bytes.
func laid(t *testing.T, b []byte) *disk.Disk {
	t.Helper()
	d := newDisk(t, api.MaxRoom)
	put(t, d, "r", b)
	return d
}

// content are the bytes of a file.
func content(t *testing.T, d *disk.Disk, name string) []byte {
	t.Helper()
	n, e := d.Size(name)
	ok(t, e)
	b, e := d.Read(name, 0, n)
	ok(t, e)
	return b
}

// seen is what a disk holds.
func seen(t *testing.T, d *disk.Disk) string {
	t.Helper()
	var s strings.Builder
	for _, name := range d.Names() {
		s.WriteString(strconv.Quote(name) + " " + hex.EncodeToString(content(t, d, name)) + "\n")
	}
	return s.String()
}

// choices are all lists of n choices.
func choices(n int) iter.Seq[[]bool] {
	return func(yield func([]bool) bool) {
		for bits := range 1 << n {
			l := make([]bool, n)
			for i := range l {
				l[i] = bits>>i&1 == 1
			}
			if !yield(l) {
				return
			}
		}
	}
}

// losses yields the disks behind all losses of power.
func losses(t *testing.T, d *disk.Disk) iter.Seq[*disk.Disk] {
	t.Helper()
	changes, sectors, sizes := d.Loose()
	if sectors+sizes > 12 {
		t.Fatalf("%d, %d, %d are too many to try all losses", changes, sectors, sizes)
	}
	return func(yield func(*disk.Disk) bool) {
		for dir := range changes + 1 {
			for keep := range choices(sectors) {
				for size := range choices(sizes) {
					x, e := d.Lose(api.Loss{Dir: dir, Keep: keep, Size: size})
					ok(t, e)
					if !yield(x) {
						return
					}
				}
			}
		}
	}
}

// shown is what a disk holds, what is loose, and what it holds behind each loss of power.
func shown(t *testing.T, d *disk.Disk) string {
	t.Helper()
	var s strings.Builder
	s.WriteString(seen(t, d))
	for x := range losses(t, d) {
		s.WriteString(":\n" + seen(t, x))
	}
	return s.String()
}

// opened is the run in the file r.
func opened(t *testing.T, d *disk.Disk) *run.Run {
	t.Helper()
	r, e := run.Open(d, "r")
	if e != api.OK || r == nil {
		t.Fatalf("Open: %v, %d", r, e)
	}
	return r
}

// refuses tells if Open answers anything but this error.
func refuses(t *testing.T, what string, d *disk.Disk, name string, want api.Errno) {
	t.Helper()
	if r, e := run.Open(d, name); r != nil || e != want {
		t.Errorf("%s: Open: %v, %d, not %d", what, r, e, want)
	}
}

// rots tells if Open takes a file of these bytes for a run.
func rots(t *testing.T, what string, b []byte) {
	t.Helper()
	refuses(t, what, laid(t, b), "r", api.ErrRot)
}
