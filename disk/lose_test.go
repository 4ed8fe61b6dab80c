package disk_test

import (
	"bytes"
	"math"
	"slices"
	"strconv"
	"testing"

	"pedigree/api"
	"pedigree/disk"
)

// lost is a disk behind a loss of power.
func lost(t *testing.T, d *disk.Disk, c api.Loss) *disk.Disk {
	t.Helper()
	x, e := d.Lose(c)
	ok(t, e)
	if x == nil {
		t.Fatal("Lose answers no disk")
	}
	return x
}

// has tells if the disk has other files than these.
func has(t *testing.T, what string, d *disk.Disk, want map[string]string) {
	t.Helper()
	if l := d.Names(); len(l) != len(want) {
		t.Errorf("%s: names %q", what, l)
		return
	}
	for name, b := range want {
		if n, e := d.Size(name); e != api.OK || n != len(b) {
			t.Errorf("%s: %s has %d bytes: %d", what, name, n, e)
		} else if got := content(t, d, name); string(got) != b {
			t.Errorf("%s: %s is %q, not %q", what, name, got, b)
		}
	}
}

// TestExamples are those of the document, of Loose and of Lose.
func TestExamples(t *testing.T) { // P5.4, P5.6
	d := newDisk(t, 8)
	ok(t, d.Create("a"), d.Write("a", 0, fill(0, 100)))
	if c, s, z := d.Loose(); c != 1 || s != 2 || z != 1 {
		t.Errorf("loose %d, %d, %d", c, s, z)
	}
	b := make([]byte, 100)
	copy(b, fill(0, 64))
	has(t, "the example", lost(t, d, api.Loss{Dir: 1, Keep: []bool{true}, Size: []bool{true}}), map[string]string{"a": string(b)})
}

func TestLoseChoices(t *testing.T) { // P5.6
	d := newDisk(t, 8)
	ok(t, d.Create("a"), d.Write("a", 0, fill(0, 100)))
	b := fill(0, 100)
	zeros := make([]byte, 100)
	for _, c := range []struct {
		loss api.Loss
		want string
	}{
		{api.Loss{}, ""},
		{api.Loss{Keep: []bool{}, Size: []bool{}}, ""},
		{api.Loss{Size: []bool{true}}, string(zeros)},
		{api.Loss{Size: []bool{false, true, true}}, ""},
		{api.Loss{Keep: []bool{true, true}}, ""},
		{api.Loss{Keep: []bool{true}, Size: []bool{true}}, string(b[:64]) + string(zeros[64:])},
		{api.Loss{Keep: []bool{true, false, true}, Size: []bool{true}}, string(b[:64]) + string(zeros[64:])},
		{api.Loss{Keep: []bool{false, true}, Size: []bool{true}}, string(zeros[:64]) + string(b[64:])},
		{api.Loss{Keep: []bool{true, true}, Size: []bool{true}}, string(b)},
		{api.Loss{Keep: all(1000), Size: all(1000)}, string(b)},
		{api.Loss{Keep: []bool{false, false, true, true}, Size: []bool{true}}, string(zeros)},
	} {
		keep, size := slices.Clone(c.loss.Keep), slices.Clone(c.loss.Size)
		has(t, "Dir 0", lost(t, d, c.loss), nil)
		c.loss.Dir = 1
		has(t, "Dir 1", lost(t, d, c.loss), map[string]string{"a": c.want})
		if !slices.Equal(keep, c.loss.Keep) || !slices.Equal(size, c.loss.Size) {
			t.Errorf("Lose changes the choices to %v", c.loss)
		}
	}
}

// TestLoseOrder: loose sectors and sizes are numbered by when their files were created, not by names, nor by when they were written.
func TestLoseOrder(t *testing.T) { // P5.6
	d := newDisk(t, 20)
	ok(t, d.Create("z"), d.Create("m"), d.Create("a"), d.SyncDir())
	ok(t, d.Write("a", 0, fill(0, 200)), d.Sync("a"), d.Write("m", 0, fill(0, 70)), d.Sync("m"))
	ok(t, d.Write("a", 130, []byte("A2")), d.Write("a", 10, []byte("A0")), d.Write("m", 70, fill(70, 60)), d.Write("z", 0, fill(30, 5)))
	if c, s, z := d.Loose(); c != 0 || s != 5 || z != 2 {
		t.Fatalf("loose %d, %d, %d", c, s, z)
	}
	none, m := "\x00\x00\x00\x00\x00", fill(0, 70)
	a := string(fill(0, 200))
	one := func(n, i int) []bool {
		l := make([]bool, n)
		l[i] = true
		return l
	}
	pad := func(b []byte, n int) string { return string(append(bytes.Clone(b), make([]byte, n-len(b))...)) }
	sizes := all(2)
	has(t, "no sector", lost(t, d, api.Loss{Size: sizes}), map[string]string{"z": none, "m": pad(m, 130), "a": a})
	has(t, "sector 0", lost(t, d, api.Loss{Size: sizes, Keep: one(5, 0)}), map[string]string{"z": string(fill(30, 5)), "m": pad(m, 130), "a": a})
	has(t, "sector 1", lost(t, d, api.Loss{Size: sizes, Keep: one(5, 1)}), map[string]string{"z": none, "m": pad(fill(0, 128), 130), "a": a})
	has(t, "sector 2", lost(t, d, api.Loss{Size: sizes, Keep: one(5, 2)}), map[string]string{"z": none, "m": pad(m, 128) + string(fill(128, 2)), "a": a})
	has(t, "sector 3", lost(t, d, api.Loss{Size: sizes, Keep: one(5, 3)}), map[string]string{"z": none, "m": pad(m, 130), "a": a[:10] + "A0" + a[12:]})
	has(t, "sector 4", lost(t, d, api.Loss{Size: sizes, Keep: one(5, 4)}), map[string]string{"z": none, "m": pad(m, 130), "a": a[:130] + "A2" + a[132:]})
	has(t, "size 0", lost(t, d, api.Loss{Size: one(2, 0), Keep: all(5)}), map[string]string{"z": string(fill(30, 5)), "m": string(m), "a": a[:10] + "A0" + a[12:130] + "A2" + a[132:]})
	has(t, "size 1", lost(t, d, api.Loss{Size: one(2, 1), Keep: all(5)}), map[string]string{"z": "", "m": string(fill(0, 130)), "a": a[:10] + "A0" + a[12:130] + "A2" + a[132:]})
}

// TestLoseManyFiles: numbers are held against one another as numbers, also where there are many, and where names are given anew.
func TestLoseManyFiles(t *testing.T) { // P5.6
	d := newDisk(t, 500)
	const n = 200
	name := func(i int) string { return strconv.Itoa((i * 37) % n) }
	for i := range n {
		ok(t, d.Create(name(i)))
	}
	for i := range n {
		ok(t, d.Write(name(n-1-i), 0, []byte{byte(n - 1 - i)}))
	}
	for i := range n {
		keep := make([]bool, n)
		keep[i] = true
		x := lost(t, d, api.Loss{Dir: n, Keep: keep, Size: all(n)})
		for j := range n {
			want := byte(0)
			if i == j {
				want = byte(i)
			}
			if b := content(t, x, name(j)); len(b) != 1 || b[0] != want {
				t.Fatalf("with sector %d kept, file %d is %v", i, j, b)
			}
		}
	}
}

// TestLoseDir: the changes of the directory count up to c.Dir, in order.
func TestLoseDir(t *testing.T) { // P5.6
	d := newDisk(t, 20)
	ok(t, d.Create("a"), d.Write("a", 0, []byte("A")), d.Create("b"), d.Write("b", 0, []byte("B")), d.Sync("a"), d.Sync("b"), d.SyncDir())
	ok(t, d.Create("c"), d.Write("c", 0, []byte("C")), d.Sync("c"))
	ok(t, d.Delete("a"), d.Create("a"), d.Write("a", 0, []byte("new")), d.Sync("a"))
	ok(t, d.Rename("c", "b"), d.Rename("b", "b"), d.Rename("b", "d"), d.Create("b"), d.Delete("d"))
	steps := []map[string]string{
		{"a": "A", "b": "B"},
		{"a": "A", "b": "B", "c": "C"},
		{"b": "B", "c": "C"},
		{"a": "new", "b": "B", "c": "C"}, // its bytes were fixed later than its name was given, and are there with the name
		{"a": "new", "b": "C"},
		{"a": "new", "d": "C"},
		{"a": "new", "d": "C", "b": ""},
		{"a": "new", "b": ""},
	}
	if c, s, z := d.Loose(); c != len(steps)-1 || s != 0 || z != 0 {
		t.Fatalf("loose %d, %d, %d", c, s, z)
	}
	for dir, want := range steps {
		has(t, "Dir "+strconv.Itoa(dir), lost(t, d, api.Loss{Dir: dir}), want)
	}
	before := shown(t, d)
	for _, dir := range []int{-1, len(steps), math.MinInt, math.MaxInt} {
		x, e := d.Lose(api.Loss{Dir: dir, Keep: all(3), Size: all(3)})
		if x != nil || e != api.ErrRange {
			t.Errorf("Dir %d: %v, %d", dir, x, e)
		}
	}
	same(t, "a Lose that is refused", d, before)
}

// TestDeletedFiles: the sectors and sizes of files without names are numbered along, until SyncDir.
func TestDeletedFiles(t *testing.T) { // P5.4, P5.6
	d := newDisk(t, 20)
	ok(t, d.Create("a"), d.Create("b"), d.SyncDir(), d.Write("a", 0, []byte("A")), d.Write("b", 0, []byte("B")), d.Create("c"), d.Write("c", 0, []byte("C")))
	ok(t, d.Delete("a"), d.Rename("c", "b"), d.Create("d"), d.Write("d", 0, []byte("D")))
	if c, s, z := d.Loose(); c != 4 || s != 4 || z != 4 {
		t.Fatalf("loose %d, %d, %d", c, s, z)
	}
	last := []bool{false, false, false, true}
	has(t, "the last", lost(t, d, api.Loss{Dir: 4, Keep: last, Size: last}), map[string]string{"b": "", "d": "D"})
	third := []bool{false, false, true}
	has(t, "the third", lost(t, d, api.Loss{Dir: 4, Keep: third, Size: third}), map[string]string{"b": "C", "d": ""})
	first := []bool{true}
	has(t, "the first", lost(t, d, api.Loss{Dir: 1, Keep: first, Size: first}), map[string]string{"a": "A", "b": "", "c": ""})
	ok(t, d.SyncDir())
	if c, s, z := d.Loose(); c != 0 || s != 2 || z != 2 {
		t.Fatalf("loose %d, %d, %d", c, s, z)
	}
	has(t, "the first of two", lost(t, d, api.Loss{Keep: first, Size: first}), map[string]string{"b": "C", "d": ""})
}

// TestLostDisk: on the new disk everything is fixed, and it has nothing to do with the one before.
func TestLostDisk(t *testing.T) { // P5.6, the rule on memory
	d := twoFiles(t)
	ok(t, d.SyncDir(), d.Sync("a"), d.Write("a", 90, fill(7, 60)), d.Rename("b", "c"), d.Fuse(9))
	before := shown(t, d)
	c := api.Loss{Dir: 1, Keep: []bool{true, false, true}, Size: []bool{true, true}}
	x, y := lost(t, d, c), lost(t, d, c)
	same(t, "Lose", d, before)
	if used, room := x.Used(); used != 5 || room != 8 {
		t.Errorf("used %d, %d", used, room)
	}
	if c, s, z := x.Loose(); c != 0 || s != 0 || z != 0 || x.Down() {
		t.Errorf("loose %d, %d, %d", c, s, z)
	}
	again := shown(t, x)
	if got := shown(t, lost(t, x, api.Loss{Keep: all(9), Size: all(9)})); got != again {
		t.Errorf("lost again:\n%s\nbefore:\n%s", got, again)
	}
	ok(t, x.Write("a", 0, fill(99, 150)), x.Rot("c", 0, 255), x.Delete("c"), x.Create("d"), x.SyncDir(), x.Fuse(0))
	same(t, "another disk", d, before)
	same(t, "another disk", y, again)
	ok(t, d.Write("a", 0, fill(50, 150)), d.Rot("c", 1, 255), d.Sync("c"), d.Delete("c"))
	same(t, "another disk", y, again)
}

// TestLostNumbers: behind a loss of power the files are numbered as before, and a new one behind them.
func TestLostNumbers(t *testing.T) { // P5.6
	d := newDisk(t, 20)
	ok(t, d.Create("z"), d.Create("x"), d.Create("y"), d.Create("w"), d.Rename("z", "q"), d.Delete("x"), d.Rename("y", "a"))
	x := lost(t, d, api.Loss{Dir: 7}) // q, a, w
	ok(t, x.Create("b"))
	for _, name := range []string{"b", "w", "a", "q"} {
		ok(t, x.Write(name, 0, []byte(name)))
	}
	for i, name := range []string{"q", "a", "w", "b"} {
		l := make([]bool, 4)
		l[i] = true
		want := map[string]string{"q": "", "a": "", "w": "", "b": ""}
		want[name] = name
		has(t, name, lost(t, x, api.Loss{Dir: 1, Keep: l, Size: l}), want)
	}
}

// TestLoseSmaller: a sector that is kept counts as far as the size goes that is kept.
func TestLoseSmaller(t *testing.T) { // P5.6
	d := newDisk(t, 20)
	ok(t, d.Create("a"), d.Write("a", 0, fill(0, 70)), d.Sync("a"), d.SyncDir(), d.Write("a", 66, fill(166, 200)))
	want := fill(0, 70)
	copy(want[66:], fill(166, 4))
	has(t, "smaller", lost(t, d, api.Loss{Keep: all(4)}), map[string]string{"a": string(want)})
	x := lost(t, d, api.Loss{Keep: all(4)})
	ok(t, x.Write("a", 70, nil))
	_, e := x.Read("a", 70, 1)
	is(t, "a byte beyond the size", e, api.ErrRange)
	ok(t, x.Write("a", 70, []byte("x")))
	has(t, "written", x, map[string]string{"a": string(want) + "x"})
	has(t, "none of it", lost(t, d, api.Loss{}), map[string]string{"a": string(fill(0, 70))})
}

// losses are all that a loss of power may keep of a disk.
func losses(d *disk.Disk) []api.Loss {
	changes, sectors, sizes := d.Loose()
	var l []api.Loss
	for dir := range changes + 1 {
		for k := range 1 << sectors {
			for z := range 1 << sizes {
				l = append(l, api.Loss{Dir: dir, Keep: bits(k, sectors), Size: bits(z, sizes)})
			}
		}
	}
	return l
}

func bits(k, n int) []bool {
	l := make([]bool, n)
	for i := range l {
		l[i] = k>>i&1 == 1
	}
	return l
}

func TestFixedStays(t *testing.T) { // P5.7
	d := newDisk(t, 20)
	ok(t, d.Create("a"), d.Write("a", 0, fill(0, 200)), d.Sync("a"), d.SyncDir())
	ok(t, d.Write("a", 70, fill(170, 10)), d.Write("a", 200, fill(90, 5)), d.Create("b"), d.Write("b", 0, fill(0, 70)), d.Rename("b", "c"), d.Create("b"), d.Delete("c"))
	l := losses(d)
	if len(l) != 5*16*4 {
		t.Fatalf("%d losses", len(l))
	}
	for _, c := range l {
		b := content(t, lost(t, d, c), "a")
		if len(b) < 200 || !bytes.Equal(b[:64], fill(0, 64)) || !bytes.Equal(b[128:192], fill(128, 64)) {
			t.Fatalf("%v: %q", c, b)
		}
	}
}

// TestOldOrNew: each sector of each file is the one or the other, and all that may be there is there behind some loss.
func TestOldOrNew(t *testing.T) { // P5.8
	d := newDisk(t, 20)
	ok(t, d.Create("a"), d.Write("a", 0, fill(0, 130)), d.Sync("a"), d.SyncDir(), d.Write("a", 60, fill(160, 100)), d.Create("b"), d.Write("b", 0, fill(50, 70)))
	olds := map[string][]byte{"a": append(fill(0, 130), make([]byte, 30)...), "b": make([]byte, 70)}
	news := map[string][]byte{"a": content(t, d, "a"), "b": content(t, d, "b")}
	found := map[string]int{}
	for _, c := range losses(d) {
		x := lost(t, d, c)
		all := ""
		for _, name := range x.Names() {
			b := content(t, x, name)
			all += name + string(b)
			for i := 0; i < len(b); i += 64 {
				to := min(i+64, len(b))
				if !bytes.Equal(b[i:to], olds[name][i:to]) && !bytes.Equal(b[i:to], news[name][i:to]) {
					t.Fatalf("%v: sector %d of %s is %q", c, i/64, name, b[i:to])
				}
			}
			if name == "a" && len(b) != 130 && len(b) != 160 || name == "b" && len(b) != 0 && len(b) != 70 {
				t.Fatalf("%v: %s has %d bytes", c, name, len(b))
			}
		}
		found[all]++
	}
	if n := 16 * (1 + 1 + 4); len(found) != n { // of a, all 16; without b, with an empty one, with 70 bytes
		t.Errorf("%d contents, not %d", len(found), n)
	}
}

// TestOverfull: behind a loss of power there may be less room than the files occupy.
func TestOverfull(t *testing.T) { // P5.9, P5.2
	d := newDisk(t, 4)
	ok(t, d.Create("a"), d.Write("a", 0, fill(0, 200)), d.Sync("a"), d.Create("b"), d.SyncDir(), d.Delete("a"), d.Write("b", 0, fill(0, 129)), d.Sync("b"))
	x := lost(t, d, api.Loss{})
	if used, room := x.Used(); used != 7 || room != 4 {
		t.Fatalf("used %d of %d", used, room)
	}
	before := shown(t, x)
	is(t, "no room", x.Write("a", 200, fill(0, 10)), api.ErrFull)
	is(t, "no room, though the file stays as great", x.Write("a", 0, []byte("x")), api.ErrFull)
	is(t, "no room, though nothing is written", x.Write("a", 0, nil), api.ErrFull)
	is(t, "an offset out of range", x.Write("a", 201, nil), api.ErrRange)
	same(t, "a Write for which there is no room", x, before)
	ok(t, x.Sync("a"), x.Create("c"), x.Rename("a", "d"), x.Rename("d", "a"))
	is(t, "no room", x.Write("c", 0, nil), api.ErrFull)
	ok(t, x.Delete("a"), x.Write("c", 0, []byte("x")))
	is(t, "no room", x.Write("c", 1, fill(0, 64)), api.ErrFull)
}
