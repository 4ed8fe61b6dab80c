package manifest_test

import (
	"bytes"
	"math/rand"
	"slices"
	"strconv"
	"testing"

	"pedigree/api"
	"pedigree/disk"
	"pedigree/manifest"
)

// saves tells if Save answers another error.
func saves(t *testing.T, what string, d *disk.Disk, m api.Manifest, want api.Errno) {
	t.Helper()
	is(t, what+": Save", manifest.Save(d, m), want)
}

func TestSaveLoad(t *testing.T) { // P11.3
	d := laid(t, "other", "run.0")
	loadsNone(t, "ahead of all", d, api.OK)
	for what, m := range valids() {
		before := deep(m)
		saves(t, what, d, m, api.OK)
		if !alike(m, before) {
			t.Errorf("%s: changed to %v", what, m)
		}
		loads(t, what, d, m)
		if b := read(t, d, "manifest"); !bytes.Equal(b, sealed(content(m))) {
			t.Errorf("%s: the file is % x", what, b)
		}
		if l := d.Names(); !slices.Equal(l, []string{"manifest", "other", "run.0"}) {
			t.Errorf("%s: files %q", what, l)
		}
		if changes, sectors, sizes := d.Loose(); changes+sectors+sizes > 0 {
			t.Errorf("%s: loose %d, %d, %d", what, changes, sectors, sizes)
		}
		x, e := d.Lose(api.Loss{})
		ok(t, e)
		loads(t, what+", behind a loss", x, m)
	}
}

// steps are the modifying calls of a Save, with a side file or without one.
func steps(m api.Manifest, aside bool) []func(d *disk.Disk) api.Errno {
	l := []func(d *disk.Disk) api.Errno{
		func(d *disk.Disk) api.Errno { return d.Delete("manifest.aside") },
		func(d *disk.Disk) api.Errno { return d.Create("manifest.aside") },
		func(d *disk.Disk) api.Errno { return d.Write("manifest.aside", 0, sealed(content(m))) },
		func(d *disk.Disk) api.Errno { return d.Sync("manifest.aside") },
		func(d *disk.Disk) api.Errno { return d.Rename("manifest.aside", "manifest") },
		func(d *disk.Disk) api.Errno { return d.SyncDir() },
	}
	if !aside {
		return l[1:]
	}
	return l
}

// TestSaveSteps: a fuse ends Save at each of its modifying calls, behind which the disk is as the document has it, whatever a loss of power keeps.
func TestSaveSteps(t *testing.T) { // P11.3
	for _, aside := range []bool{false, true} {
		for _, saved := range []bool{false, true} {
			for n := range 8 {
				what := "fuse " + strconv.Itoa(n) + ", side file " + strconv.FormatBool(aside) + ", manifest " + strconv.FormatBool(saved)
				disks := []*disk.Disk{laid(t, "other"), laid(t, "other")}
				for _, d := range disks {
					if saved {
						saves(t, "ahead", d, other(), api.OK)
					}
					if aside {
						put(t, d, "manifest.aside", bytes.Repeat([]byte("longer than all that is saved here"), 9))
					}
				}
				d, by := disks[0], disks[1]
				calls := steps(small(), aside)
				want := api.OK
				if n < len(calls) {
					want = api.ErrDown
				}
				ok(t, d.Fuse(n))
				saves(t, what, d, small(), want)
				if d.Down() != (n <= len(calls)) {
					t.Errorf("%s: down %t", what, d.Down())
				}
				for _, call := range calls[:min(n, len(calls))] {
					ok(t, call(by))
				}
				if now, then := shown(t, d), shown(t, by); now != then {
					t.Errorf("%s: the disk is\n%s\nwant\n%s", what, now, then)
				}
			}
		}
	}
}

// TestSaveFails: the errors of Save, in their order, and what is left then.
func TestSaveFails(t *testing.T) { // P11.3
	wrong := small()
	wrong.Next = 128
	for _, d := range noDisks(t) {
		saves(t, "no disk, a manifest that may not be", d, wrong, api.ErrManifest)
		saves(t, "no disk", d, small(), api.ErrNil)
		saves(t, "no disk", d, api.Manifest{}, api.ErrNil)
	}
	for _, names := range [][]string{nil, {"manifest.aside"}, {"manifest"}, {"manifest", "manifest.aside"}} {
		d := laid(t, names...)
		before := shown(t, d)
		saves(t, "a manifest that may not be", d, wrong, api.ErrManifest)
		ok(t, d.Fuse(0))
		saves(t, "a manifest that may not be, down", d, wrong, api.ErrManifest)
		saves(t, "down", d, small(), api.ErrDown)
		if now := shown(t, d); now != before {
			t.Errorf("%q: the disk is\n%s\nwas\n%s", names, now, before)
		}
	}
}

// TestSaveNoRoom: where there is no room, or no name, for the side file, the manifest is the one before.
func TestSaveNoRoom(t *testing.T) { // P11.3, P11.5
	sectors := (len(sealed(content(greatest()))) + api.Sector - 1) / api.Sector
	for _, left := range []int{0, 1, sectors - 1, sectors} {
		for _, aside := range []bool{false, true} {
			d := newDisk(t, sectors+100)
			saves(t, "ahead", d, small(), api.OK)
			used, room := d.Used()
			put(t, d, "filler", make([]byte, (room-used-left)*api.Sector))
			if aside && left > 0 {
				put(t, d, "manifest.aside", make([]byte, left*api.Sector))
			}
			if left == sectors {
				saves(t, "just room", d, greatest(), api.OK)
				loads(t, "just room", d, greatest())
				continue
			}
			saves(t, "no room", d, greatest(), api.ErrFull)
			loads(t, "no room", d, small())
			if n := len(read(t, d, "manifest.aside")); n != 0 {
				t.Errorf("the side file has %d bytes", n)
			}
			for x := range losses(t, d) {
				loads(t, "no room, behind a loss", x, small())
			}
			ok(t, d.Delete("filler"))
			saves(t, "room again", d, greatest(), api.OK)
			loads(t, "room again", d, greatest())
		}
	}
	d := newDisk(t, 1000)
	saves(t, "ahead", d, other(), api.OK)
	for i := range api.MaxFiles - 2 {
		ok(t, d.Create("f"+strconv.Itoa(i)))
	}
	saves(t, "a name is left", d, small(), api.OK)
	ok(t, d.Create("last"))
	saves(t, "no name is left", d, other(), api.ErrMany)
	loads(t, "no name is left", d, small())
	ok(t, d.Rename("last", "manifest.aside"))
	saves(t, "the side file's", d, other(), api.OK)
	loads(t, "the side file's", d, other())
}

// TestLoadFails: the errors of Load.
func TestLoadFails(t *testing.T) { // P11.3
	for _, d := range noDisks(t) {
		loadsNone(t, "no disk", d, api.ErrNil)
	}
	loadsNone(t, "no files", newDisk(t, 1), api.OK)
	loadsNone(t, "other files", laid(t, "manifest.aside", "Manifest", "manifest ", "run.0"), api.OK)
	aside := newDisk(t, 100)
	put(t, aside, "manifest.aside", sealed(content(small())))
	loadsNone(t, "a side file", aside, api.OK)
	ok(t, aside.Fuse(0))
	loadsNone(t, "a side file, down", aside, api.OK)
	whole := sealed(content(small()))
	for what, b := range map[string][]byte{
		"empty":           nil,
		"cut":             whole[:len(whole)-1],
		"goes on":         append(bytes.Clone(whole), 0),
		"not sealed":      content(small()),
		"sealed nothing":  sealed(nil),
		"a run to come":   sealed([]byte{0, 0, 0, 0, 0, 0, 1, 1, 'e', 1, 0}),
		"another's bytes": []byte("of manifest"),
	} {
		d := newDisk(t, 100)
		put(t, d, "manifest", b)
		before := shown(t, d)
		loadsNone(t, what, d, api.ErrRot)
		ok(t, d.Fuse(0))
		loadsNone(t, what+", down", d, api.ErrRot)
		if now := shown(t, d); now != before {
			t.Errorf("%s: the disk is\n%s\nwas\n%s", what, now, before)
		}
	}
}

// TestLoadRot: each bit of the file counts, and Save helps.
func TestLoadRot(t *testing.T) { // P11.3
	d := newDisk(t, 100)
	saves(t, "ahead", d, small(), api.OK)
	for i := range len(sealed(content(small()))) {
		for bit := range 8 {
			ok(t, d.Rot("manifest", i, 1<<bit))
			loadsNone(t, "rot", d, api.ErrRot)
			ok(t, d.Rot("manifest", i, 1<<bit))
		}
	}
	loads(t, "as it was", d, small())
	ok(t, d.Rot("manifest", 9, 1))
	saves(t, "over rot", d, other(), api.OK)
	loads(t, "over rot", d, other())
}

// TestLoadChangesNothing: Load works on a disk that is down, and leaves it.
func TestLoadChangesNothing(t *testing.T) { // P11.3
	d := laid(t, "other", "manifest.aside", "run.0")
	saves(t, "ahead", d, small(), api.OK)
	put(t, d, "manifest.aside", sealed(content(other())))
	before := shown(t, d)
	ok(t, d.Fuse(0))
	loads(t, "down", d, small())
	loads(t, "once more", d, small())
	if now := shown(t, d); now != before {
		t.Errorf("the disk is\n%s\nwas\n%s", now, before)
	}
}

// TestOneOrTheOther: wherever a fuse ends a Save, and whatever a loss of power then keeps, the manifest before counts or the new one, and the new one if Save succeeded.
func TestOneOrTheOther(t *testing.T) { // P11.5
	for _, saved := range []bool{false, true} {
		for _, aside := range []string{"", "fixed", "loose"} {
			for n := range 8 {
				what := "fuse " + strconv.Itoa(n) + ", side file " + aside
				d := laid(t, "run.0")
				if saved {
					saves(t, "ahead", d, other(), api.OK)
				}
				switch aside {
				case "fixed":
					put(t, d, "manifest.aside", sealed(content(api.Manifest{})))
				case "loose":
					ok(t, d.Create("manifest.aside"), d.Write("manifest.aside", 0, sealed(content(api.Manifest{}))))
				}
				ok(t, d.Fuse(n))
				e := manifest.Save(d, small())
				for x := range losses(t, d) {
					old, new := counts(t, what, x)
					if e == api.OK && !new || !new && old != saved {
						t.Errorf("%s: Save: %d, behind a loss: %t, %t", what, e, old, new)
					}
				}
			}
		}
	}
}

// counts tells if other counts, or small. It tells the test if anything else does.
func counts(t *testing.T, what string, d *disk.Disk) (bool, bool) {
	t.Helper()
	m, is, e := manifest.Load(d)
	switch {
	case e != api.OK || is && !alike(m, other()) && !alike(m, small()):
		t.Errorf("%s: Load: %v, %t, %d", what, m, is, e)
	case is:
		return alike(m, other()), alike(m, small())
	}
	return false, false
}

// TestLossesAgain: one Save after the other, each ended somewhere and followed by a loss of power: what counts is always what counted, or what was being saved.
func TestLossesAgain(t *testing.T) { // P11.5
	r := rand.New(rand.NewSource(5))
	flips := func(n int) []bool {
		l := make([]bool, n)
		for i := range l {
			l[i] = r.Intn(2) == 0
		}
		return l
	}
	for range 300 {
		d := newDisk(t, 10000)
		var now api.Manifest
		counted := false
		for range 30 {
			m := drawn(r)
			ok(t, d.Fuse(r.Intn(9)))
			e := manifest.Save(d, m)
			changes, sectors, sizes := d.Loose()
			x, lost := d.Lose(api.Loss{Dir: r.Intn(changes + 1), Keep: flips(sectors), Size: flips(sizes)})
			ok(t, lost)
			d = x
			got, is, f := manifest.Load(d)
			saved := is && alike(got, m)
			before := is == counted && alike(got, now)
			if f != api.OK || !saved && (e == api.OK || !before) {
				t.Fatalf("Save: %d, Load: %v, %t, %d", e, got, is, f)
			}
			now, counted = got, is
		}
	}
}
