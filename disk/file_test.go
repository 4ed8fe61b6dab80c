package disk_test

import (
	"bytes"
	"math"
	"strings"
	"testing"

	"pedigree/api"
	"pedigree/disk"
)

func TestWrite(t *testing.T) { // P5.2
	for _, c := range []struct {
		size, at, n int // a Write of n bytes into a file that has size
		want        int // its size then
		loose       int // sectors written into
	}{
		{0, 0, 0, 0, 0}, {0, 0, 1, 1, 1}, {0, 0, 64, 64, 1}, {0, 0, 65, 65, 2}, {0, 0, 128, 128, 2}, {0, 0, 129, 129, 3},
		{10, 0, 0, 10, 0}, {10, 10, 0, 10, 0}, {10, 5, 0, 10, 0}, {10, 0, 10, 10, 1}, {10, 9, 1, 10, 1}, {10, 9, 2, 11, 1}, {10, 10, 1, 11, 1}, {10, 10, 54, 64, 1}, {10, 10, 55, 65, 2},
		{63, 63, 1, 64, 1}, {63, 63, 2, 65, 2}, {64, 64, 0, 64, 0}, {64, 64, 1, 65, 1}, {64, 63, 1, 64, 1}, {64, 63, 2, 65, 2}, {64, 64, 64, 128, 1}, {64, 64, 65, 129, 2},
		{200, 0, 1, 200, 1}, {200, 63, 1, 200, 1}, {200, 64, 1, 200, 1}, {200, 63, 2, 200, 2}, {200, 63, 66, 200, 3}, {200, 64, 64, 200, 1}, {200, 128, 72, 200, 2}, {200, 128, 73, 201, 2}, {200, 199, 1, 200, 1}, {200, 200, 57, 257, 2},
	} {
		d := newDisk(t, 10)
		ok(t, d.Create("a"), d.Write("a", 0, fill(0, c.size)), d.Sync("a"))
		b := fill(100, c.n)
		ok(t, d.Write("a", c.at, b))
		want := fill(0, max(c.size, c.want))
		copy(want[c.at:], b)
		if got := content(t, d, "a"); !bytes.Equal(got, want) {
			t.Errorf("%v: %q, not %q", c, got, want)
		}
		sizes := 0
		if c.want != c.size {
			sizes = 1
		}
		if ch, s, z := d.Loose(); ch != 1 || s != c.loose || z != sizes {
			t.Errorf("%v: loose %d, %d, %d", c, ch, s, z)
		}
		if !bytes.Equal(b, fill(100, c.n)) {
			t.Errorf("%v: Write changes its bytes", c)
		}
		clear(b)
		if got := content(t, d, "a"); !bytes.Equal(got, want) {
			t.Errorf("%v: Write keeps its bytes", c)
		}
	}
}

func TestWriteRefused(t *testing.T) { // P5.2
	d := newDisk(t, 1<<14)
	ok(t, d.Create("a"), d.Write("a", 0, fill(0, 100)))
	before := shown(t, d)
	large := make([]byte, 1<<20+1)
	for _, b := range [][]byte{nil, []byte("x"), large} {
		for _, at := range []int{-1, 101, -64, 128, 1 << 20, 1<<20 + 1, math.MinInt, math.MaxInt} {
			is(t, "no file of the name", d.Write("b", at, b), api.ErrNone)
			is(t, "an offset out of range", d.Write("a", at, b), api.ErrRange)
		}
		is(t, "no file of the name", d.Write("b", 0, b), api.ErrNone)
	}
	is(t, "a file too great", d.Write("a", 0, large), api.ErrLong)
	is(t, "a file too great", d.Write("a", 1, large[:1<<20]), api.ErrLong)
	is(t, "a file too great", d.Write("a", 100, large[:1<<20-99]), api.ErrLong)
	same(t, "a Write that is refused", d, before)
	ok(t, d.Write("a", 100, large[:1<<20-100]))
	if n, e := d.Size("a"); n != 1<<20 || e != api.OK {
		t.Errorf("%d bytes: %d", n, e)
	}
	is(t, "a file too great", d.Write("a", 1<<20, []byte("x")), api.ErrLong)
	is(t, "a file too great", d.Write("a", 1<<20-1, []byte("xy")), api.ErrLong)
	is(t, "an offset out of range", d.Write("a", 1<<20+1, nil), api.ErrRange)
	ok(t, d.Write("a", 1<<20-1, []byte("x")), d.Write("a", 1<<20, nil))
	small := newDisk(t, 1)
	ok(t, small.Create("a"))
	is(t, "a file too great for files is so, however little room there is", small.Write("a", 0, large), api.ErrLong)
	is(t, "no room", small.Write("a", 0, large[:1<<20]), api.ErrFull)
}

func TestWriteFull(t *testing.T) { // P5.2, P5.9
	for _, room := range []int{1, 2, 3, 10} {
		d := newDisk(t, room)
		ok(t, d.Create("a"), d.Create("b"))
		before := shown(t, d)
		is(t, "a byte too many", d.Write("a", 0, fill(0, 64*room+1)), api.ErrFull)
		same(t, "a Write for which there is no room", d, before)
		ok(t, d.Write("a", 0, fill(0, 64*(room-1)+1)))
		before = shown(t, d)
		is(t, "a sector too many", d.Write("b", 0, []byte("x")), api.ErrFull)
		is(t, "a sector too many", d.Write("a", 64*(room-1), fill(0, 65)), api.ErrFull)
		ok(t, d.Write("b", 0, nil))
		same(t, "a Write for which there is no room", d, before)
		ok(t, d.Write("a", 64*(room-1)+1, fill(64*(room-1)+1, 63)))
		if used, r := d.Used(); used != room || r != room {
			t.Errorf("used %d of %d", used, r)
		}
		if got := content(t, d, "a"); !bytes.Equal(got, fill(0, 64*room)) {
			t.Errorf("room %d: %q", room, got)
		}
		is(t, "a sector too many", d.Write("a", 64*room, []byte("x")), api.ErrFull)
		ok(t, d.Write("a", 0, fill(9, 64*room)), d.Write("a", 64*room, nil))
		ok(t, d.Delete("a"), d.Write("b", 0, fill(0, 64*room)), d.Create("a"))
		is(t, "a sector too many", d.Write("a", 0, []byte("x")), api.ErrFull)
		ok(t, d.Rename("a", "b"), d.Write("b", 0, fill(0, 64*room)))
	}
}

// TestWriteAmongFiles: what other files occupy counts by their sectors, and only where they have names.
func TestWriteAmongFiles(t *testing.T) { // P5.2
	d := newDisk(t, 6)
	ok(t, d.Create("a"), d.Create("b"), d.Create("c"), d.Write("a", 0, fill(0, 65)), d.Write("b", 0, fill(0, 1)), d.Write("c", 0, fill(0, 64)))
	before := shown(t, d)
	is(t, "no room", d.Write("b", 1, fill(0, 192)), api.ErrFull)
	is(t, "no room", d.Write("c", 64, fill(0, 129)), api.ErrFull)
	same(t, "a Write for which there is no room", d, before)
	ok(t, d.Write("b", 1, fill(0, 191)))
	is(t, "no room", d.Write("c", 64, fill(0, 1)), api.ErrFull)
	ok(t, d.Rename("c", "a"), d.Write("a", 64, fill(0, 128)))
	if used, _ := d.Used(); used != 6 {
		t.Errorf("used %d", used)
	}
}

func TestGreatRoom(t *testing.T) { // P5.1, P5.2
	d := newDisk(t, 1<<20)
	large := fill(0, 1<<20)
	for i := range 64 {
		name := string(rune('0' + i))
		ok(t, d.Create(name), d.Write(name, 0, large), d.Sync(name))
	}
	ok(t, d.Create("z"))
	if used, room := d.Used(); used != 1<<20 || room != 1<<20 {
		t.Errorf("used %d of %d", used, room)
	}
	is(t, "no room", d.Write("z", 0, []byte("x")), api.ErrFull)
}

func TestSync(t *testing.T) { // P5.2
	d := twoFiles(t)
	ok(t, d.SyncDir(), d.Sync("a"))
	if c, s, z := d.Loose(); c != 0 || s != 2 || z != 1 {
		t.Errorf("loose %d, %d, %d", c, s, z)
	}
	x, e := d.Lose(api.Loss{})
	ok(t, e)
	if !bytes.Equal(content(t, x, "a"), fill(0, 100)) || len(content(t, x, "b")) != 0 {
		t.Errorf("%q, %q", content(t, x, "a"), content(t, x, "b"))
	}
	before := shown(t, d)
	ok(t, d.Sync("a"))
	same(t, "Sync with nothing to fix", d, before)
	ok(t, d.Write("a", 98, []byte("xyz")))
	if c, s, z := d.Loose(); c != 0 || s != 3 || z != 2 {
		t.Errorf("loose %d, %d, %d", c, s, z)
	}
	ok(t, d.Sync("a"), d.Sync("b"))
	if c, s, z := d.Loose(); c != 0 || s != 0 || z != 0 {
		t.Errorf("loose %d, %d, %d", c, s, z)
	}
	before = shown(t, d)
	for _, name := range []string{"", "c", "A", strings.Repeat("a", 65)} {
		is(t, "no file of the name", d.Sync(name), api.ErrNone)
	}
	same(t, "a Sync that is refused", d, before)
}

// TestSyncFixesNoName: the bytes are fixed, and the name is not.
func TestSyncFixesNoName(t *testing.T) { // P5.2, P5.6
	d := newDisk(t, 4)
	ok(t, d.Create("a"), d.Write("a", 0, fill(0, 70)), d.Sync("a"))
	if c, s, z := d.Loose(); c != 1 || s != 0 || z != 0 {
		t.Errorf("loose %d, %d, %d", c, s, z)
	}
	for dir, want := range []int{0, 1} {
		x, e := d.Lose(api.Loss{Dir: dir})
		ok(t, e)
		if len(x.Names()) != want {
			t.Errorf("Dir %d: names %q", dir, x.Names())
		}
		if want == 1 && !bytes.Equal(content(t, x, "a"), fill(0, 70)) {
			t.Errorf("Dir %d: %q", dir, content(t, x, "a"))
		}
	}
}

// TestLooseTwice: a sector that is written twice is loose once, and what is fixed of it is what was so first.
func TestLooseTwice(t *testing.T) { // P5.2, P5.6
	d := newDisk(t, 4)
	ok(t, d.Create("a"), d.Write("a", 0, []byte("first")), d.Sync("a"), d.SyncDir())
	ok(t, d.Write("a", 0, []byte("SECOND")), d.Write("a", 1, []byte("third..")))
	if c, s, z := d.Loose(); c != 0 || s != 1 || z != 1 {
		t.Errorf("loose %d, %d, %d", c, s, z)
	}
	for _, c := range []struct {
		keep, size bool
		want       string
	}{{false, false, "first"}, {true, false, "Sthir"}, {false, true, "first\x00\x00\x00"}, {true, true, "Sthird.."}} {
		x, e := d.Lose(api.Loss{Keep: []bool{c.keep}, Size: []bool{c.size}})
		ok(t, e)
		if b := content(t, x, "a"); string(b) != c.want {
			t.Errorf("%v: %q", c, b)
		}
	}
	ok(t, d.Sync("a"), d.Write("a", 0, []byte("F")))
	x, e := d.Lose(api.Loss{})
	ok(t, e)
	if b := content(t, x, "a"); string(b) != "Sthird.." {
		t.Errorf("%q", b)
	}
}

func TestRead(t *testing.T) { // P5.4
	d := newDisk(t, 4)
	b := fill(0, 130)
	ok(t, d.Create("a"), d.Write("a", 0, b), d.Create("empty"))
	for at := range 131 {
		for n := range 131 - at {
			got, e := d.Read("a", at, n)
			if e != api.OK || !bytes.Equal(got, b[at:at+n]) {
				t.Fatalf("Read(%d, %d) = %q, %d", at, n, got, e)
			}
		}
	}
	for _, c := range [][2]int{{0, 131}, {130, 1}, {129, 2}, {131, 0}, {131, 1}, {-1, 0}, {-1, 1}, {-1, 131}, {0, -1}, {130, -1}, {131, -1}, {-1, -1}, {1 << 20, 0},
		{math.MaxInt, math.MaxInt}, {math.MaxInt, 1}, {1, math.MaxInt}, {math.MinInt, math.MinInt}, {math.MinInt, 0}, {math.MinInt, math.MaxInt}, {0, math.MinInt}, {math.MaxInt, math.MinInt}} {
		got, e := d.Read("a", c[0], c[1])
		if e != api.ErrRange || len(got) != 0 {
			t.Errorf("Read(%d, %d) = %q, %d", c[0], c[1], got, e)
		}
		got, e = d.Read("b", c[0], c[1])
		if e != api.ErrNone || len(got) != 0 {
			t.Errorf("Read(%d, %d) of no file = %q, %d", c[0], c[1], got, e)
		}
	}
	got, e := d.Read("empty", 0, 0)
	if e != api.OK || len(got) != 0 {
		t.Errorf("Read of nothing = %q, %d", got, e)
	}
	_, e = d.Read("empty", 0, 1)
	is(t, "Read of nothing", e, api.ErrRange)
}

// TestReadIsNew: what is read is the caller's.
func TestReadIsNew(t *testing.T) { // P5.4, the rule on memory
	d := newDisk(t, 4)
	ok(t, d.Create("a"), d.Write("a", 0, fill(0, 130)))
	x, e := d.Read("a", 10, 20)
	ok(t, e)
	y, e := d.Read("a", 10, 20)
	ok(t, e)
	clear(x[:cap(x)])
	_ = append(x[:5], fill(77, 100)...)
	if !bytes.Equal(y, fill(10, 20)) || !bytes.Equal(content(t, d, "a"), fill(0, 130)) {
		t.Errorf("%q, %q", y, content(t, d, "a"))
	}
	ok(t, d.Write("a", 0, make([]byte, 130)))
	if !bytes.Equal(y, fill(10, 20)) {
		t.Errorf("%q", y)
	}
}

func TestSize(t *testing.T) { // P5.4
	d := newDisk(t, 4)
	ok(t, d.Create("a"))
	for _, n := range []int{0, 1, 63, 64, 65, 200} {
		ok(t, d.Write("a", 0, fill(0, n)))
		for range 2 {
			if got, e := d.Size("a"); got != n || e != api.OK {
				t.Errorf("Size = %d, %d", got, e)
			}
		}
	}
	for _, name := range []string{"", "b", "A", "a\x00"} {
		if got, e := d.Size(name); got != 0 || e != api.ErrNone {
			t.Errorf("Size(%q) = %d, %d", name, got, e)
		}
	}
}

// rotted has 130 bytes, the first 70 of which are fixed; of the sectors, the second and the third are loose.
func rotted(t *testing.T) *disk.Disk {
	d := newDisk(t, 4)
	ok(t, d.Create("a"), d.Write("a", 0, fill(0, 70)), d.Sync("a"), d.SyncDir(), d.Write("a", 70, fill(70, 60)), d.Write("a", 65, fill(165, 3)))
	return d
}

func TestRot(t *testing.T) { // P5.5
	now := fill(0, 130)
	copy(now[65:], fill(165, 3))
	for _, mask := range []byte{0, 1, 128, 255, 90} {
		for at := range 130 {
			d := rotted(t)
			before, _ := d.Lose(api.Loss{})
			ok(t, d.Rot("a", at, mask))
			want := bytes.Clone(now)
			want[at] ^= mask
			if got := content(t, d, "a"); !bytes.Equal(got, want) {
				t.Fatalf("Rot(%d, %d): %q, not %q", at, mask, got, want)
			}
			if c, s, z := d.Loose(); c != 0 || s != 2 || z != 1 {
				t.Fatalf("Rot(%d, %d): loose %d, %d, %d", at, mask, c, s, z)
			}
			want = make([]byte, 130)
			copy(want, content(t, before, "a"))
			if at < 70 {
				want[at] ^= mask
			}
			x, e := d.Lose(api.Loss{Size: []bool{true}})
			ok(t, e)
			if got := content(t, x, "a"); !bytes.Equal(got, want) {
				t.Fatalf("Rot(%d, %d): fixed are %q, not %q", at, mask, got, want)
			}
			ok(t, d.Rot("a", at, mask))
			if got := content(t, d, "a"); !bytes.Equal(got, now) {
				t.Fatalf("Rot(%d, %d) twice: %q", at, mask, got)
			}
		}
	}
}

func TestRotRefused(t *testing.T) { // P5.5
	d := rotted(t)
	ok(t, d.Create("empty"), d.SyncDir())
	before := shown(t, d)
	for _, at := range []int{-1, 130, 131, -64, 1 << 20, math.MinInt, math.MaxInt} {
		is(t, "no byte there", d.Rot("a", at, 1), api.ErrRange)
		is(t, "no byte there, and a mask of none", d.Rot("a", at, 0), api.ErrRange)
		is(t, "no file of the name", d.Rot("b", at, 1), api.ErrNone)
	}
	is(t, "no byte there", d.Rot("empty", 0, 1), api.ErrRange)
	is(t, "no file of the name", d.Rot("b", 0, 0), api.ErrNone)
	is(t, "no file of the name", d.Rot("", 0, 0), api.ErrNone)
	same(t, "a Rot that is refused", d, before)
}
