package disk_test

import (
	"bytes"
	"slices"
	"strconv"
	"strings"
	"testing"

	"pedigree/api"
)

func TestCreate(t *testing.T) { // P5.1
	d := newDisk(t, 1)
	for i, name := range []string{"a", "A", " ", ".", "/", "\x00", "\xff\xfe", "a\n", "€", strings.Repeat("x", 63), strings.Repeat("x", 64), strings.Repeat("\x80", 64)} {
		ok(t, d.Create(name))
		if n, e := d.Size(name); n != 0 || e != api.OK {
			t.Errorf("%q has %d bytes: %d", name, n, e)
		}
		if c, s, z := d.Loose(); c != i+1 || s != 0 || z != 0 {
			t.Errorf("%q: loose %d, %d, %d", name, c, s, z)
		}
	}
	before := shown(t, d)
	for _, name := range []string{"", strings.Repeat("x", 65), strings.Repeat("€", 22), strings.Repeat("x", 1<<16)} {
		is(t, "Create", d.Create(name), api.ErrName)
	}
	for _, name := range d.Names() {
		is(t, "Create", d.Create(name), api.ErrExists)
	}
	same(t, "a Create that is refused", d, before)
}

func TestCreateMany(t *testing.T) { // P5.1
	d := newDisk(t, 1)
	name := func(i int) string { return "f" + strconv.Itoa(i) }
	for i := range 256 {
		ok(t, d.Create(name(i)))
	}
	ok(t, d.SyncDir())
	before := shown(t, d)
	is(t, "a name too many", d.Create("x"), api.ErrMany)
	is(t, "a name that is there", d.Create(name(255)), api.ErrExists)
	is(t, "a name that is not valid", d.Create(""), api.ErrName)
	is(t, "a name that is not valid", d.Create(strings.Repeat("x", 65)), api.ErrName)
	same(t, "a Create that is refused", d, before)
	ok(t, d.Rename(name(3), "x"))
	is(t, "a name too many", d.Create(name(3)), api.ErrMany)
	ok(t, d.Delete(name(7)), d.Create(name(7)))
	is(t, "a name too many", d.Create("y"), api.ErrMany)
	ok(t, d.Rename(name(8), name(9)), d.Create("y"))
	if l := d.Names(); len(l) != 256 {
		t.Errorf("%d names", len(l))
	}
	x, e := d.Lose(api.Loss{Dir: 2})
	ok(t, e, x.Create("y"))
	is(t, "a name too many", x.Create("z"), api.ErrMany)
}

func TestRename(t *testing.T) { // P5.3
	d := newDisk(t, 4)
	ok(t, d.Create("a"), d.Write("a", 0, fill(0, 70)), d.Sync("a"), d.SyncDir(), d.Rename("a", "b"))
	if l := d.Names(); !slices.Equal(l, []string{"b"}) || !bytes.Equal(content(t, d, "b"), fill(0, 70)) {
		t.Errorf("%q", l)
	}
	if c, s, z := d.Loose(); c != 1 || s != 0 || z != 0 {
		t.Errorf("loose %d, %d, %d", c, s, z)
	}
	_, e := d.Size("a")
	is(t, "Size of the name before", e, api.ErrNone)
	ok(t, d.Create("a"))
	if n, e := d.Size("a"); n != 0 || e != api.OK {
		t.Errorf("the new file has %d bytes: %d", n, e)
	}
	ok(t, d.Rename("b", strings.Repeat("x", 64)))
	if c, _, _ := d.Loose(); c != 3 {
		t.Errorf("%d changes", c)
	}
}

// TestRenameOver: a file that had the name loses it.
func TestRenameOver(t *testing.T) { // P5.3
	d := twoFiles(t)
	ok(t, d.SyncDir(), d.Rename("a", "b"))
	if l := d.Names(); !slices.Equal(l, []string{"b"}) || !bytes.Equal(content(t, d, "b"), fill(0, 100)) {
		t.Errorf("%q", l)
	}
	if c, s, z := d.Loose(); c != 1 || s != 4 || z != 2 {
		t.Errorf("loose %d, %d, %d", c, s, z)
	}
	for dir, want := range []map[string][]byte{{"a": fill(0, 100), "b": fill(50, 70)}, {"b": fill(0, 100)}} {
		x, e := d.Lose(api.Loss{Dir: dir, Keep: all(4), Size: all(2)})
		ok(t, e)
		if len(x.Names()) != len(want) {
			t.Errorf("Dir %d: names %q", dir, x.Names())
		}
		for name, b := range want {
			if !bytes.Equal(content(t, x, name), b) {
				t.Errorf("Dir %d: %s is %q", dir, name, content(t, x, name))
			}
		}
	}
	ok(t, d.Write("b", 0, []byte("xyz")), d.Create("a"), d.Rename("b", "a"))
	if b := content(t, d, "a"); string(b[:3]) != "xyz" || !bytes.Equal(b[3:], fill(3, 97)) {
		t.Errorf("%q", b)
	}
}

func TestRenameSame(t *testing.T) { // P5.3
	d := twoFiles(t)
	before := shown(t, d)
	ok(t, d.Rename("a", "a"), d.Rename("b", "b"))
	same(t, "Rename to the same name", d, before)
	ok(t, d.SyncDir(), d.Rename("a", "a"))
	if c, _, _ := d.Loose(); c != 0 {
		t.Errorf("%d changes", c)
	}
}

func TestRenameRefused(t *testing.T) { // P5.3
	d := twoFiles(t)
	before := shown(t, d)
	long := strings.Repeat("x", 65)
	for _, to := range []string{"d", "c", "a", "", long} {
		is(t, "no such file", d.Rename("c", to), api.ErrNone)
		is(t, "no such file", d.Rename("", to), api.ErrNone)
		is(t, "no such file", d.Rename(long, to), api.ErrNone)
		is(t, "no such file", d.Rename("A", to), api.ErrNone)
	}
	for _, to := range []string{"", long, strings.Repeat("é", 33)} {
		is(t, "a name that is not valid", d.Rename("a", to), api.ErrName)
	}
	same(t, "a Rename that is refused", d, before)
}

func TestDelete(t *testing.T) { // P5.3
	d := twoFiles(t)
	ok(t, d.Delete("a"))
	if l := d.Names(); !slices.Equal(l, []string{"b"}) {
		t.Errorf("%q", l)
	}
	if c, s, z := d.Loose(); c != 3 || s != 4 || z != 2 {
		t.Errorf("loose %d, %d, %d", c, s, z)
	}
	before := shown(t, d)
	for _, name := range []string{"a", "c", "", "B", strings.Repeat("x", 65)} {
		is(t, "no such file", d.Delete(name), api.ErrNone)
		is(t, "no such file", d.Write(name, 0, nil), api.ErrNone)
		is(t, "no such file", d.Sync(name), api.ErrNone)
		is(t, "no such file", d.Rot(name, 0, 1), api.ErrNone)
		_, e := d.Size(name)
		is(t, "no such file", e, api.ErrNone)
		_, e = d.Read(name, 0, 0)
		is(t, "no such file", e, api.ErrNone)
	}
	same(t, "a call for no file", d, before)
	ok(t, d.Create("a"), d.Write("a", 0, []byte("new")))
	if b := content(t, d, "a"); string(b) != "new" {
		t.Errorf("%q", b)
	}
	if c, s, z := d.Loose(); c != 4 || s != 5 || z != 3 {
		t.Errorf("loose %d, %d, %d", c, s, z)
	}
}

func TestSyncDir(t *testing.T) { // P5.3
	d := twoFiles(t)
	ok(t, d.SyncDir())
	if c, s, z := d.Loose(); c != 0 || s != 4 || z != 2 {
		t.Errorf("loose %d, %d, %d", c, s, z)
	}
	x, e := d.Lose(api.Loss{})
	ok(t, e)
	if l := x.Names(); !slices.Equal(l, []string{"a", "b"}) {
		t.Errorf("%q", l)
	}
	ok(t, d.Delete("a"), d.Create("c"), d.Write("c", 0, []byte("c")), d.Delete("c"), d.Rename("b", "d"))
	if c, s, z := d.Loose(); c != 4 || s != 5 || z != 3 {
		t.Errorf("loose %d, %d, %d", c, s, z)
	}
	ok(t, d.SyncDir())
	if c, s, z := d.Loose(); c != 0 || s != 2 || z != 1 {
		t.Errorf("files without names count as loose: %d, %d, %d", c, s, z)
	}
	x, e = d.Lose(api.Loss{Keep: all(2), Size: all(1)})
	ok(t, e)
	if l := x.Names(); !slices.Equal(l, []string{"d"}) || !bytes.Equal(content(t, x, "d"), fill(50, 70)) {
		t.Errorf("%q", l)
	}
	before := shown(t, d)
	ok(t, d.SyncDir(), d.SyncDir())
	same(t, "SyncDir with nothing to fix", d, before)
}

// TestSyncDirFixesNoBytes: the directory is fixed, and no file's bytes.
func TestSyncDirFixesNoBytes(t *testing.T) { // P5.3, P5.6
	d := twoFiles(t)
	ok(t, d.SyncDir())
	x, e := d.Lose(api.Loss{})
	ok(t, e)
	for _, name := range []string{"a", "b"} {
		if n, e := x.Size(name); n != 0 || e != api.OK {
			t.Errorf("%s has %d bytes: %d", name, n, e)
		}
	}
}

// TestReplacedFile: after SyncDir, what a file was replaced by is fixed, and nothing of the file is left.
func TestReplacedFile(t *testing.T) { // P5.3, P5.6
	d := newDisk(t, 4)
	ok(t, d.Create("m"), d.Write("m", 0, []byte("old")), d.Sync("m"), d.SyncDir())
	ok(t, d.Create("t"), d.Write("t", 0, []byte("newer")), d.Sync("t"), d.Rename("t", "m"))
	for dir, want := range []string{"old", "old", "newer"} {
		x, e := d.Lose(api.Loss{Dir: dir})
		ok(t, e)
		if b := content(t, x, "m"); string(b) != want {
			t.Errorf("Dir %d: %q", dir, b)
		}
	}
	ok(t, d.SyncDir())
	x, e := d.Lose(api.Loss{})
	ok(t, e)
	if b := content(t, x, "m"); string(b) != "newer" || len(x.Names()) != 1 {
		t.Errorf("%q, %q", b, x.Names())
	}
	if c, s, z := d.Loose(); c != 0 || s != 0 || z != 0 {
		t.Errorf("loose %d, %d, %d", c, s, z)
	}
}
