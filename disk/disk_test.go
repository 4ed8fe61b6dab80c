package disk_test

import (
	"bytes"
	"math"
	"slices"
	"strconv"
	"strings"
	"testing"

	"pedigree/api"
	"pedigree/disk"
)

// newDisk is a new disk.
func newDisk(t *testing.T, room int) *disk.Disk {
	t.Helper()
	d, e := disk.New(room)
	if e != api.OK || d == nil {
		t.Fatalf("New(%d): %d", room, e)
	}
	return d
}

// ok stops the test if one of the calls did not succeed.
func ok(t *testing.T, es ...api.Errno) {
	t.Helper()
	for i, e := range es {
		if e != api.OK {
			t.Fatalf("call %d: %d", i, e)
		}
	}
}

// is tells if an error is another one.
func is(t *testing.T, what string, e, want api.Errno) {
	t.Helper()
	if e != want {
		t.Errorf("%s: %d, not %d", what, e, want)
	}
}

// fill is so many bytes, none of which is 0, and no two neighbours of which are the same.
func fill(from, n int) []byte {
	b := make([]byte, n)
	for i := range b {
		b[i] = byte(1 + (from+i)%251)
	}
	return b
}

// content are all the bytes of a file.
func content(t *testing.T, d *disk.Disk, name string) []byte {
	t.Helper()
	n, e := d.Size(name)
	ok(t, e)
	b, e := d.Read(name, 0, n)
	ok(t, e)
	if len(b) != n {
		t.Fatalf("Read(%q) has %d bytes, not %d", name, len(b), n)
	}
	return b
}

// seen is what a disk shows without a loss of power.
func seen(t *testing.T, d *disk.Disk) string {
	t.Helper()
	var s strings.Builder
	number := func(l ...int) {
		for _, n := range l {
			s.WriteString(strconv.Itoa(n))
			s.WriteByte(' ')
		}
	}
	for _, name := range d.Names() {
		s.WriteString(strconv.Quote(name) + strconv.Quote(string(content(t, d, name))))
	}
	used, room := d.Used()
	changes, sectors, sizes := d.Loose()
	number(used, room, changes, sectors, sizes)
	s.WriteString(strconv.FormatBool(d.Down()))
	return s.String()
}

// all are so many choices, each of which is true.
func all(n int) []bool {
	return slices.Repeat([]bool{true}, n)
}

// shown is what a disk shows, and what it shows after losses of power.
func shown(t *testing.T, d *disk.Disk) string {
	t.Helper()
	s := seen(t, d)
	changes, sectors, sizes := d.Loose()
	for dir := range changes + 1 {
		for _, c := range []api.Loss{{Dir: dir}, {Dir: dir, Keep: all(sectors)}, {Dir: dir, Size: all(sizes)}, {Dir: dir, Keep: all(sectors), Size: all(sizes)}} {
			x, e := d.Lose(c)
			ok(t, e)
			s += "\n" + seen(t, x)
		}
	}
	return s
}

// same tells if what a disk shows has changed.
func same(t *testing.T, what string, d *disk.Disk, before string) {
	t.Helper()
	if now := shown(t, d); now != before {
		t.Errorf("%s changed the disk\n%s\nto\n%s", what, before, now)
	}
}

func TestNew(t *testing.T) { // P5.1
	for _, room := range []int{1, 2, 63, 64, 65, 1<<20 - 1, 1 << 20} {
		d := newDisk(t, room)
		if got, want := seen(t, d), "0 "+strconv.Itoa(room)+" 0 0 0 false"; got != want {
			t.Errorf("New(%d) is %s, not %s", room, got, want)
		}
		if l := d.Names(); len(l) != 0 {
			t.Errorf("New(%d) has the files %q", room, l)
		}
	}
	for _, room := range []int{0, -1, -64, 1<<20 + 1, 1 << 30, math.MinInt, math.MaxInt} {
		if d, e := disk.New(room); d != nil || e != api.ErrArg {
			t.Errorf("New(%d): %v, %d", room, d, e)
		}
	}
}

// TestDisksApart: disks have nothing to do with one another.
func TestDisksApart(t *testing.T) { // P5.1
	a, b := newDisk(t, 2), newDisk(t, 3)
	before := shown(t, b)
	ok(t, a.Create("a"), a.Write("a", 0, fill(0, 100)), a.SyncDir(), a.Fuse(0))
	same(t, "another disk", b, before)
	ok(t, b.Create("a"), b.Write("a", 0, fill(7, 130)))
	if !bytes.Equal(content(t, a, "a"), fill(0, 100)) || !bytes.Equal(content(t, b, "a"), fill(7, 130)) {
		t.Errorf("%q, %q", content(t, a, "a"), content(t, b, "a"))
	}
}

// noDisks are those that neither New nor Lose made.
func noDisks(t *testing.T) map[string]*disk.Disk {
	d := newDisk(t, 4)
	ok(t, d.Create("a"), d.Write("a", 0, fill(0, 70)))
	copied := *d
	return map[string]*disk.Disk{"nil": nil, "new": new(disk.Disk), "zero": {}, "copied": &copied}
}

func TestNoDisk(t *testing.T) { // P5.1 to P5.6, the rule on objects that were not made
	for what, d := range noDisks(t) {
		for range 2 {
			is(t, what+" Create", d.Create("b"), api.ErrNil)
			is(t, what+" Create", d.Create(""), api.ErrNil)
			is(t, what+" Write", d.Write("a", 0, []byte("x")), api.ErrNil)
			is(t, what+" Write", d.Write("c", -1, nil), api.ErrNil)
			is(t, what+" Sync", d.Sync("a"), api.ErrNil)
			is(t, what+" Rename", d.Rename("a", "b"), api.ErrNil)
			is(t, what+" Rename", d.Rename("c", ""), api.ErrNil)
			is(t, what+" Delete", d.Delete("a"), api.ErrNil)
			is(t, what+" SyncDir", d.SyncDir(), api.ErrNil)
			is(t, what+" Fuse", d.Fuse(0), api.ErrNil)
			is(t, what+" Fuse", d.Fuse(-1), api.ErrNil)
			is(t, what+" Rot", d.Rot("a", 0, 1), api.ErrNil)
			is(t, what+" Rot", d.Rot("c", -1, 1), api.ErrNil)
			b, e := d.Read("a", 0, 1)
			is(t, what+" Read", e, api.ErrNil)
			n, e := d.Size("a")
			is(t, what+" Size", e, api.ErrNil)
			if len(b) != 0 || n != 0 {
				t.Errorf("%s: Read and Size answer %q, %d", what, b, n)
			}
			for _, c := range []api.Loss{{}, {Dir: 1}, {Dir: -1}} {
				x, e := d.Lose(c)
				is(t, what+" Lose", e, api.ErrNil)
				if x != nil {
					t.Errorf("%s: Lose answers a disk", what)
				}
			}
			if l := d.Names(); len(l) != 0 {
				t.Errorf("%s: names %q", what, l)
			}
			if used, room := d.Used(); used != 0 || room != 0 {
				t.Errorf("%s: used %d, %d", what, used, room)
			}
			if c, s, z := d.Loose(); c != 0 || s != 0 || z != 0 {
				t.Errorf("%s: loose %d, %d, %d", what, c, s, z)
			}
			if d.Down() {
				t.Errorf("%s: down", what)
			}
		}
	}
}

// TestCopiedDisk: a copy of a disk's struct is none, and leaves the disk alone.
func TestCopiedDisk(t *testing.T) { // P5.1, the rule on objects that were not made
	d := newDisk(t, 4)
	ok(t, d.Create("a"), d.Fuse(0))
	before := shown(t, d)
	copied := *d
	is(t, "Fuse", copied.Fuse(3), api.ErrNil)
	is(t, "Create", copied.Create("b"), api.ErrNil)
	if copied.Down() {
		t.Error("the copy is down")
	}
	same(t, "a copy", d, before)
}

func TestNames(t *testing.T) { // P5.4
	d := newDisk(t, 1)
	names := []string{"b", "a", "ab", "B", "\xff", "\x00", "é", "a\x00", "j.10", "j.9", "j.mark"}
	for i, name := range names {
		ok(t, d.Create(name))
		l := d.Names()
		want := slices.Sorted(slices.Values(names[:i+1]))
		if !slices.Equal(l, want) {
			t.Errorf("names %q, not %q", l, want)
		}
		l[0] = "changed" // the list is the caller's
	}
	if l := d.Names(); !slices.Equal(l, []string{"\x00", "B", "a", "a\x00", "ab", "b", "j.10", "j.9", "j.mark", "é", "\xff"}) {
		t.Errorf("names %q", l)
	}
	ok(t, d.Delete("a"), d.Rename("b", "z"), d.Rename("B", "ab"))
	if l := d.Names(); !slices.Equal(l, []string{"\x00", "a\x00", "ab", "j.10", "j.9", "j.mark", "z", "é", "\xff"}) {
		t.Errorf("names %q", l)
	}
}

func TestUsed(t *testing.T) { // P5.4
	for size, want := range map[int]int{0: 0, 1: 1, 63: 1, 64: 1, 65: 2, 127: 2, 128: 2, 129: 3, 640: 10, 641: 11} {
		d := newDisk(t, 20)
		ok(t, d.Create("a"), d.Write("a", 0, fill(0, size)), d.Create("b"), d.Write("b", 0, fill(0, 70)))
		if used, room := d.Used(); used != want+2 || room != 20 {
			t.Errorf("%d bytes: used %d, %d, not %d", size, used, room, want+2)
		}
		ok(t, d.Rename("a", "c"))
		if used, _ := d.Used(); used != want+2 {
			t.Errorf("%d bytes, renamed: used %d", size, used)
		}
		ok(t, d.Rename("b", "c"))
		if used, _ := d.Used(); used != 2 {
			t.Errorf("%d bytes, replaced: used %d", size, used)
		}
		ok(t, d.Delete("c"))
		if used, room := d.Used(); used != 0 || room != 20 {
			t.Errorf("%d bytes, deleted: used %d, %d", size, used, room)
		}
	}
}

func TestFuseRange(t *testing.T) { // P5.5
	d := newDisk(t, 1)
	ok(t, d.Fuse(0), d.Fuse(1), d.Fuse(1<<20-1), d.Fuse(1<<20))
	for _, n := range []int{-1, 1<<20 + 1, math.MinInt, math.MaxInt} {
		is(t, "Fuse", d.Fuse(n), api.ErrRange)
	}
	if d.Down() {
		t.Error("a fuse of 2^20 has blown at once")
	}
	ok(t, d.Create("a"))
	for i := range 1<<20 - 1 {
		if d.Down() {
			t.Fatalf("a fuse of 2^20 has blown after %d calls", i+1)
		}
		d.Sync("a")
	}
	if !d.Down() {
		t.Error("a fuse of 2^20 has not blown after so many calls")
	}
	for _, n := range []int{-1, 1<<20 + 1} {
		is(t, "Fuse", d.Fuse(n), api.ErrRange)
		if !d.Down() {
			t.Error("a fuse that may not be has brought the disk back")
		}
	}
}

// modifying are the calls that the fuse counts: each succeeds, in this order.
func modifying() map[string]func(d *disk.Disk) api.Errno {
	return map[string]func(d *disk.Disk) api.Errno{
		"Create":      func(d *disk.Disk) api.Errno { return d.Create("new") },
		"Write":       func(d *disk.Disk) api.Errno { return d.Write("a", 0, []byte("x")) },
		"Write none":  func(d *disk.Disk) api.Errno { return d.Write("a", 3, nil) },
		"Sync":        func(d *disk.Disk) api.Errno { return d.Sync("a") },
		"Rename":      func(d *disk.Disk) api.Errno { return d.Rename("a", "z") },
		"Rename same": func(d *disk.Disk) api.Errno { return d.Rename("a", "a") },
		"Rename over": func(d *disk.Disk) api.Errno { return d.Rename("a", "b") },
		"Delete":      func(d *disk.Disk) api.Errno { return d.Delete("a") },
		"SyncDir":     func(d *disk.Disk) api.Errno { return d.SyncDir() },
	}
}

// refused are modifying calls that do not succeed, of a disk with the files a and b.
func refused(t *testing.T, d *disk.Disk) {
	t.Helper()
	is(t, "Create", d.Create(""), api.ErrName)
	is(t, "Create", d.Create("a"), api.ErrExists)
	is(t, "Write", d.Write("c", 0, nil), api.ErrNone)
	is(t, "Write", d.Write("a", -1, nil), api.ErrRange)
	is(t, "Write", d.Write("a", 0, make([]byte, 1<<20+1)), api.ErrLong)
	is(t, "Write", d.Write("a", 0, make([]byte, 1<<19)), api.ErrFull)
	is(t, "Sync", d.Sync("c"), api.ErrNone)
	is(t, "Rename", d.Rename("c", "d"), api.ErrNone)
	is(t, "Rename", d.Rename("a", ""), api.ErrName)
	is(t, "Delete", d.Delete("c"), api.ErrNone)
}

// uncounted are the calls that the fuse does not count.
func uncounted(t *testing.T, d *disk.Disk) {
	t.Helper()
	_, e1 := d.Read("a", 0, 1)
	_, e2 := d.Size("a")
	_, e3 := d.Lose(api.Loss{})
	ok(t, e1, e2, e3, d.Rot("a", 0, 0))
	d.Names()
	d.Used()
	d.Loose()
	d.Down()
}

func twoFiles(t *testing.T) *disk.Disk {
	d := newDisk(t, 8)
	ok(t, d.Create("a"), d.Write("a", 0, fill(0, 100)), d.Create("b"), d.Write("b", 0, fill(50, 70)))
	return d
}

func TestFuse(t *testing.T) { // P5.5
	for what, call := range modifying() {
		for n := range 4 {
			d := twoFiles(t)
			ok(t, d.Fuse(n))
			for i := range n {
				refused(t, d)
				uncounted(t, d)
				if d.Down() {
					t.Fatalf("%s: a fuse of %d has blown after %d calls", what, n, i)
				}
				if i == n-1 {
					is(t, what, call(d), api.OK)
				} else {
					ok(t, d.Sync("b"))
				}
			}
			if !d.Down() {
				t.Errorf("%s: a fuse of %d has not blown after so many calls", what, n)
			}
		}
	}
}

// TestDown: where the fuse has blown, nothing is modified, and all the rest goes on.
func TestDown(t *testing.T) { // P5.1, P5.2, P5.3, P5.5
	d := twoFiles(t)
	ok(t, d.Fuse(0))
	before := shown(t, d)
	for what, call := range modifying() {
		is(t, what, call(d), api.ErrDown)
	}
	for range 300 {
		is(t, "Create", d.Create(""), api.ErrDown)
	}
	is(t, "Create", d.Create("a"), api.ErrDown)
	is(t, "Write", d.Write("c", 0, nil), api.ErrDown)
	is(t, "Write", d.Write("a", -1, make([]byte, 1<<20+1)), api.ErrDown)
	is(t, "Sync", d.Sync("c"), api.ErrDown)
	is(t, "Rename", d.Rename("c", ""), api.ErrDown)
	is(t, "Delete", d.Delete("c"), api.ErrDown)
	uncounted(t, d)
	same(t, "a disk that is down", d, before)
	ok(t, d.Rot("a", 0, 3))
	if b := content(t, d, "a"); b[0] != fill(0, 1)[0]^3 {
		t.Errorf("Rot leaves %d", b[0])
	}
	x, e := d.Lose(api.Loss{Dir: 2})
	ok(t, e)
	if x.Down() || !d.Down() {
		t.Error("a loss of power takes the fuse along, or out")
	}
	for range 10 {
		ok(t, x.Sync("a"))
	}
}

// TestFuseAnew: a fuse counts from when it was set, and one that has blown may be set anew.
func TestFuseAnew(t *testing.T) { // P5.5
	d := twoFiles(t)
	for range 10 {
		ok(t, d.Sync("a"))
	}
	ok(t, d.Fuse(2), d.Sync("a"), d.Fuse(2), d.Sync("a"))
	if d.Down() {
		t.Error("the new fuse counts what was before it")
	}
	ok(t, d.Sync("a"))
	is(t, "Sync", d.Sync("a"), api.ErrDown)
	ok(t, d.Fuse(1))
	if d.Down() {
		t.Error("a new fuse has blown already")
	}
	ok(t, d.Sync("a"))
	is(t, "Sync", d.Sync("a"), api.ErrDown)
	ok(t, d.Fuse(0))
	is(t, "Sync", d.Sync("a"), api.ErrDown)
	ok(t, d.Fuse(3), d.Sync("a"), d.Fuse(0))
	is(t, "Sync", d.Sync("a"), api.ErrDown)
}
