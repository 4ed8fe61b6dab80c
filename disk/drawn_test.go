package disk_test

import (
	"bytes"
	"maps"
	"math/rand"
	"slices"
	"strings"
	"testing"

	"pedigree/api"
	"pedigree/disk"
)

// defFile is a file as the document defines it: its bytes, those that are fixed, and the sectors written into.
type defFile struct {
	now, fixed []byte
	written    map[int]bool
}

// defDisk is a disk as the document defines it: all files that ever were, and the directory, fixed and after each change.
type defDisk struct {
	room  int
	files []*defFile
	dirs  []map[string]int
	since int // the first file that was created since the directory was fixed
	fuse  int // below 0: none
}

func (d *defDisk) dir() map[string]int { return d.dirs[len(d.dirs)-1] }

func (d *defDisk) changed(how func(dir map[string]int)) {
	next := maps.Clone(d.dir())
	how(next)
	d.dirs = append(d.dirs, next)
}

func (d *defDisk) done() api.Errno {
	d.fuse--
	return api.OK
}

func (d *defDisk) used() int {
	n := 0
	for _, f := range d.dir() {
		n += (len(d.files[f].now) + 63) / 64
	}
	return n
}

// ready is the file of a name, for a modifying call.
func (d *defDisk) ready(name string) (int, api.Errno) {
	n, there := d.dir()[name]
	switch {
	case d.fuse == 0:
		return 0, api.ErrDown
	case !there:
		return 0, api.ErrNone
	}
	return n, api.OK
}

func (d *defDisk) create(name string) api.Errno {
	_, there := d.dir()[name]
	switch {
	case d.fuse == 0:
		return api.ErrDown
	case name == "" || len(name) > 64:
		return api.ErrName
	case there:
		return api.ErrExists
	}
	d.files = append(d.files, &defFile{written: map[int]bool{}})
	d.changed(func(dir map[string]int) { dir[name] = len(d.files) - 1 })
	return d.done()
}

func (d *defDisk) write(name string, at int, b []byte) api.Errno {
	n, e := d.ready(name)
	if e != api.OK {
		return e
	}
	f := d.files[n]
	switch {
	case at < 0 || at > len(f.now):
		return api.ErrRange
	case at+len(b) > 1<<20:
		return api.ErrLong
	}
	before := f.now
	f.now = slices.Concat(before[:at], b, before[min(at+len(b), len(before)):])
	if d.used() > d.room {
		f.now = before
		return api.ErrFull
	}
	for i := range b {
		f.written[(at+i)/64] = true
	}
	return d.done()
}

func (d *defDisk) sync(name string) api.Errno {
	n, e := d.ready(name)
	if e != api.OK {
		return e
	}
	f := d.files[n]
	f.fixed, f.written = bytes.Clone(f.now), map[int]bool{}
	return d.done()
}

func (d *defDisk) rename(name, to string) api.Errno {
	n, e := d.ready(name)
	switch {
	case e != api.OK:
		return e
	case to == "" || len(to) > 64:
		return api.ErrName
	case to != name:
		d.changed(func(dir map[string]int) { delete(dir, name); dir[to] = n })
	}
	return d.done()
}

func (d *defDisk) remove(name string) api.Errno {
	if _, e := d.ready(name); e != api.OK {
		return e
	}
	d.changed(func(dir map[string]int) { delete(dir, name) })
	return d.done()
}

func (d *defDisk) syncDir() api.Errno {
	if d.fuse == 0 {
		return api.ErrDown
	}
	d.dirs, d.since = []map[string]int{d.dir()}, len(d.files)
	return d.done()
}

func (d *defDisk) rot(name string, at int, mask byte) api.Errno {
	n, there := d.dir()[name]
	if !there {
		return api.ErrNone
	}
	f := d.files[n]
	if at < 0 || at >= len(f.now) {
		return api.ErrRange
	}
	f.now = bytes.Clone(f.now)
	f.now[at] ^= mask
	if at < len(f.fixed) {
		f.fixed[at] ^= mask
	}
	return api.OK
}

// counted are the numbers of the files whose sectors and sizes count, rising.
func (d *defDisk) counted() []int {
	l := slices.Collect(maps.Values(d.dirs[0]))
	for n := d.since; n < len(d.files); n++ {
		l = append(l, n)
	}
	slices.Sort(l)
	return slices.Compact(l)
}

func (d *defDisk) loose() (int, int, int) {
	sectors, sizes := 0, 0
	for _, n := range d.counted() {
		sectors += len(d.files[n].written)
		if len(d.files[n].now) != len(d.files[n].fixed) {
			sizes++
		}
	}
	return len(d.dirs) - 1, sectors, sizes
}

func (d *defDisk) lose(c api.Loss) *defDisk {
	sector, size := 0, 0
	take := func(l []bool, i *int) bool {
		*i++
		return *i <= len(l) && l[*i-1]
	}
	files := map[int]*defFile{}
	for _, n := range d.counted() {
		f := d.files[n]
		to := len(f.fixed)
		if len(f.now) != to && take(c.Size, &size) {
			to = len(f.now)
		}
		b := make([]byte, max(len(f.now), to))
		for _, i := range slices.Sorted(maps.Keys(f.written)) {
			if !take(c.Keep, &sector) {
				copy(b[i*64:min(i*64+64, len(b))], f.fixed[min(i*64, len(f.fixed)):])
			} else {
				copy(b[i*64:min(i*64+64, len(b))], f.now[i*64:])
			}
		}
		for i := range b {
			if !f.written[i/64] {
				b[i] = f.now[i]
			}
		}
		files[n] = &defFile{now: b[:to], fixed: bytes.Clone(b[:to]), written: map[int]bool{}}
	}
	x := &defDisk{room: d.room, fuse: -1, dirs: []map[string]int{{}}}
	names := map[int]string{}
	for name, n := range d.dirs[c.Dir] {
		names[n] = name
	}
	for _, n := range slices.Sorted(maps.Keys(names)) {
		x.dirs[0][names[n]] = len(x.files)
		x.files = append(x.files, files[n])
	}
	x.since = len(x.files)
	return x
}

// held holds a disk against what the document defines.
func held(t *testing.T, d *disk.Disk, m *defDisk) {
	t.Helper()
	if l := d.Names(); !slices.Equal(l, slices.Sorted(maps.Keys(m.dir()))) {
		t.Fatalf("names %q, not %q", l, slices.Sorted(maps.Keys(m.dir())))
	}
	for name, n := range m.dir() {
		if b := content(t, d, name); !bytes.Equal(b, m.files[n].now) {
			t.Fatalf("%q is %q, not %q", name, b, m.files[n].now)
		}
	}
	if used, room := d.Used(); used != m.used() || room != m.room {
		t.Fatalf("used %d of %d, not %d of %d", used, room, m.used(), m.room)
	}
	c, s, z := d.Loose()
	if mc, ms, mz := m.loose(); c != mc || s != ms || z != mz {
		t.Fatalf("loose %d, %d, %d, not %d, %d, %d", c, s, z, mc, ms, mz)
	}
	if d.Down() != (m.fuse == 0) {
		t.Fatalf("down: %v", d.Down())
	}
}

// draw is a choice among so many, fewer of them, or more.
func draw(r *rand.Rand, n int) []bool {
	l := make([]bool, max(0, n+r.Intn(5)-2))
	for i := range l {
		l[i] = r.Intn(2) == 0
	}
	return l
}

func drawnLoss(r *rand.Rand, m *defDisk) api.Loss {
	c, s, z := m.loose()
	return api.Loss{Dir: r.Intn(c + 1), Keep: draw(r, s), Size: draw(r, z)}
}

// step does one drawn thing to both.
func step(r *rand.Rand, d *disk.Disk, m *defDisk) (api.Errno, api.Errno) {
	names := []string{"a", "b", "c", "d", "", strings.Repeat("x", 65), strings.Repeat("x", 64), "\xff"}
	name := func() string {
		if r.Intn(8) > 0 {
			return names[r.Intn(4)]
		}
		return names[r.Intn(len(names))]
	}
	x, y := name(), name()
	size := 0
	if n, there := m.dir()[x]; there {
		size = len(m.files[n].now)
	}
	at := r.Intn(size+3) - 1
	if r.Intn(3) == 0 {
		at = size
	}
	switch k := r.Intn(40); {
	case k < 7:
		return d.Create(x), m.create(x)
	case k < 20:
		b := fill(r.Intn(251), r.Intn(1+r.Intn(200)))
		return d.Write(x, at, b), m.write(x, at, b)
	case k < 25:
		return d.Sync(x), m.sync(x)
	case k < 29:
		return d.Rename(x, y), m.rename(x, y)
	case k < 32:
		return d.Delete(x), m.remove(x)
	case k < 34:
		return d.SyncDir(), m.syncDir()
	case k < 37:
		mask := byte(r.Intn(256))
		return d.Rot(x, at, mask), m.rot(x, at, mask)
	case k < 39 || m.fuse == 0 && r.Intn(2) == 0:
		m.fuse = r.Intn(30)
		return d.Fuse(m.fuse), api.OK
	}
	return api.OK, api.OK
}

// TestDrawn holds drawn calls, and losses of power among them, against the document's definitions.
func TestDrawn(t *testing.T) { // P5.1 to P5.9
	for seed := range 150 {
		r := rand.New(rand.NewSource(int64(seed)))
		room := 1 + r.Intn(16)
		d, m := newDisk(t, room), &defDisk{room: room, fuse: -1, dirs: []map[string]int{{}}}
		for i := range 200 {
			if got, want := step(r, d, m); got != want {
				t.Fatalf("seed %d, step %d: %d, not %d", seed, i, got, want)
			}
			held(t, d, m)
			c := drawnLoss(r, m)
			x, e := d.Lose(c)
			ok(t, e)
			y := m.lose(c)
			held(t, x, y)
			if r.Intn(40) == 0 {
				before := shown(t, d)
				for range 20 {
					step(r, x, y)
				}
				held(t, x, y)
				same(t, "another disk", d, before)
				d, m = x, y
			}
		}
	}
}
