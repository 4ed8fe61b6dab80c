package manifest_test

import (
	"math"
	"math/rand"
	"slices"
	"strconv"
	"strings"
	"testing"

	"pedigree/api"
	"pedigree/disk"
	"pedigree/manifest"
)

// orphans tells if the orphans are others.
func orphans(t *testing.T, what string, m api.Manifest, names []string, want ...string) {
	t.Helper()
	before := slices.Clone(names)
	if l := manifest.Orphans(m, names...); !slices.Equal(l, want) {
		t.Errorf("%s: Orphans: %q, want %q", what, l, want)
	}
	if !slices.Equal(names, before) {
		t.Errorf("%s: the names were changed to %q", what, names)
	}
}

// TestOrphansExample is the document's.
func TestOrphansExample(t *testing.T) { // P11.4
	m := api.Manifest{Segment: 2}
	orphans(t, "the example", m, []string{"journal.1", "run.0", "journal.2", "journal.01"}, "journal.1", "run.0")
}

func TestOrphans(t *testing.T) { // P11.4
	m := small() // Segment 2, runs 0, 128, 7, Next 200
	orphans(t, "no names", m, nil)
	orphans(t, "the manifest's", m, []string{"manifest", "manifest.aside", "Manifest.aside", "manifest.asid", "manifest.aside2", "manifest.aside.", ""}, "manifest.aside")
	orphans(t, "segments", m, []string{"journal.3", "journal.2", "journal.1", "journal.0", "journal.2147483647", "journal.mark"}, "journal.1", "journal.0")
	orphans(t, "runs", m, []string{"run.0", "run.1", "run.7", "run.6", "run.128", "run.12", "run.199", "run.200", "run.201", "run.2147483647"}, "run.1", "run.6", "run.12", "run.199", "run.200", "run.201", "run.2147483647")
	orphans(t, "in their order", m, []string{"run.9", "journal.0", "x", "run.8", "manifest.aside", "journal.1", "run.7", "run.10"}, "run.9", "journal.0", "run.8", "manifest.aside", "journal.1", "run.10")
	orphans(t, "names that occur twice", m, []string{"run.9", "run.0", "run.9", "run.0", "x", "x"}, "run.9", "run.9")
	for _, prefix := range []string{"run.", "journal."} {
		orphans(t, prefix, m, noNames(prefix))
		orphans(t, prefix, api.Manifest{}, noNames(prefix))
		orphans(t, prefix, api.Manifest{Segment: 2147483647}, noNames(prefix))
	}
	orphans(t, "nothing", api.Manifest{}, []string{"journal.0", "journal.1", "run.0", "manifest", "manifest.aside"}, "run.0", "manifest.aside")
	last := api.Manifest{Segment: 2147483647}
	orphans(t, "the last segment", last, []string{"journal.0", "journal.2147483646", "journal.2147483647"}, "journal.0", "journal.2147483646")
	if l := manifest.Orphans(greatest(), "run.2147483646", "run.2147475455", "run.2147475454"); !slices.Equal(l, []string{"run.2147475454"}) {
		t.Errorf("greatest: %q", l)
	}
}

// TestOrphansOfAny: a manifest that may not be has orphans by the same words.
func TestOrphansOfAny(t *testing.T) { // P11.4
	names := []string{"journal.0", "journal.2147483647", "run.0", "run.1", "run.2", "x", "manifest", "manifest.aside"}
	orphans(t, "Segment too great", api.Manifest{Segment: math.MaxInt}, names, "journal.0", "journal.2147483647", "run.0", "run.1", "run.2", "manifest.aside")
	orphans(t, "Segment below 0", api.Manifest{Segment: math.MinInt}, names, "run.0", "run.1", "run.2", "manifest.aside")
	m := api.Manifest{Rels: []api.ManRel{{Runs: []string{"run.1", "run.1", "x", "manifest.aside"}}, {Runs: []string{"run.2", "run.1", "journal.0"}}}, Segment: 1, Next: -1}
	orphans(t, "other runs", m, names, "journal.0", "run.0", "manifest.aside")
}

// TestOrphansOwn: what is answered is the caller's own.
func TestOrphansOwn(t *testing.T) { // P11.4
	names := []string{"run.1", "run.2", "x"}
	l := manifest.Orphans(api.Manifest{}, names...)
	l[0] = "y"
	_ = append(l, "z")
	if !slices.Equal(names, []string{"run.1", "run.2", "x"}) {
		t.Errorf("%q", names)
	}
}

// sweeps tells if Sweep answers another number, or another error.
func sweeps(t *testing.T, what string, d *disk.Disk, m api.Manifest, want int, e api.Errno) {
	t.Helper()
	if n, f := manifest.Sweep(d, m); n != want || f != e {
		t.Errorf("%s: Sweep: %d, %d, want %d, %d", what, n, f, want, e)
	}
}

// kept are names that are no orphans of small, and swept those that are, rising.
var (
	kept  = []string{"journal.02", "journal.2", "journal.3", "journal.mark", "manifest", "other", "run.0", "run.00", "run.128", "run.7"}
	swept = []string{"journal.0", "journal.1", "manifest.aside", "run.1", "run.200"}
)

// strewn is a disk with files of these names, all fixed but for some bytes and the last name.
func strewn(t *testing.T) *disk.Disk {
	t.Helper()
	d := laid(t, append(slices.Clone(swept), kept...)...)
	ok(t, d.Write("other", 3, []byte("loose")), d.Write("run.1", 0, make([]byte, 70)), d.Create("zzz"))
	return d
}

// TestSweep: the orphans go, and everything else is as it was, behind any loss of power.
func TestSweep(t *testing.T) { // P11.4, P11.6
	d, by := strewn(t), strewn(t)
	m := small()
	sweeps(t, "orphans", d, m, 5, api.OK)
	if !alike(m, small()) {
		t.Errorf("changed to %v", m)
	}
	for _, name := range swept {
		ok(t, by.Delete(name))
	}
	ok(t, by.SyncDir())
	if now, then := shown(t, d), shown(t, by); now != then {
		t.Errorf("the disk is\n%s\nwant\n%s", now, then)
	}
	if l := d.Names(); !slices.Equal(l, append(slices.Clone(kept), "zzz")) {
		t.Errorf("files %q", l)
	}
	orphans(t, "no more", m, d.Names())
	sweeps(t, "once more", d, m, 0, api.OK)
	sweeps(t, "of another", d, other(), 3, api.OK) // journal.2, run.0, run.7
	sweeps(t, "of nothing", d, api.Manifest{}, 1, api.OK)
}

// TestSweepNothing: without orphans no modifying call is made: what is loose stays so, and a disk that is down may be swept.
func TestSweepNothing(t *testing.T) { // P11.4
	d := laid(t, kept...)
	ok(t, d.Create("zzz"), d.Write("zzz", 0, []byte("loose")))
	before := shown(t, d)
	sweeps(t, "no orphans", d, small(), 0, api.OK)
	ok(t, d.Fuse(0))
	sweeps(t, "no orphans, down", d, small(), 0, api.OK)
	if now := shown(t, d); now != before {
		t.Errorf("the disk is\n%s\nwas\n%s", now, before)
	}
	sweeps(t, "no files", newDisk(t, 1), small(), 0, api.OK)
	for _, d := range noDisks(t) {
		sweeps(t, "no disk", d, small(), 0, api.ErrNil)
		sweeps(t, "no disk, no manifest", d, api.Manifest{}, 0, api.ErrNil)
		sweeps(t, "no disk, a manifest that may not be", d, api.Manifest{Next: -1}, 0, api.ErrNil)
	}
}

// TestSweepSteps: a fuse ends Sweep at each of its modifying calls: no number stands beside the error, what was deleted stays so, and it goes on when it is called again.
func TestSweepSteps(t *testing.T) { // P11.4, P11.6
	for n := range len(swept) + 3 {
		d, by := strewn(t), strewn(t)
		went, want := 0, api.ErrDown
		if n > len(swept) {
			went, want = len(swept), api.OK
		}
		ok(t, d.Fuse(n))
		sweeps(t, "fuse "+strconv.Itoa(n), d, small(), went, want)
		if d.Down() != (n <= len(swept)+1) {
			t.Errorf("fuse %d: down %t", n, d.Down())
		}
		for _, name := range swept[:min(n, len(swept))] {
			ok(t, by.Delete(name))
		}
		if n > len(swept) {
			ok(t, by.SyncDir())
		}
		if now, then := shown(t, d), shown(t, by); now != then {
			t.Errorf("fuse %d: the disk is\n%s\nwant\n%s", n, now, then)
		}
		ok(t, d.Fuse(100))
		sweeps(t, "again", d, small(), len(swept)-min(n, len(swept)), api.OK)
		orphans(t, "again", small(), d.Names())
		for x := range losses(t, d) {
			if l := x.Names(); n < len(swept) && !slices.Equal(l, append(slices.Clone(kept), "zzz")) {
				t.Errorf("fuse %d: behind a loss: %q", n, l)
			}
			sweeps(t, "behind a loss", x, small(), len(manifest.Orphans(small(), x.Names()...)), api.OK)
			orphans(t, "behind a loss", small(), x.Names())
		}
	}
}

// TestSweepFull: the side file of a Save that found no room is deleted; that it is told hangs on SyncDir.
func TestSweepFull(t *testing.T) { // P11.4, P11.6
	for n, want := range []api.Errno{api.ErrDown, api.OK} {
		d := newDisk(t, 1)
		put(t, d, "1", []byte("1"))
		ok(t, d.Fuse(2+n))
		saves(t, "full", d, api.Manifest{}, api.ErrFull)
		sweeps(t, "full", d, api.Manifest{}, n, want)
		if l := d.Names(); !slices.Equal(l, []string{"1"}) {
			t.Errorf("fuse %d: files %q", 2+n, l)
		}
		ok(t, d.Fuse(0))
		sweeps(t, "again", d, api.Manifest{}, 0, api.OK)
	}
}

// TestSweepOfAny: a manifest that may not be is swept by the same words.
func TestSweepOfAny(t *testing.T) { // P11.4
	m := small()
	m.Next, m.At = -1, -1
	d := strewn(t)
	sweeps(t, "a manifest that may not be", d, m, 5, api.OK)
	if l := d.Names(); !slices.Equal(l, append(slices.Clone(kept), "zzz")) {
		t.Errorf("files %q", l)
	}
}

// TestSweepSaved: a manifest that was saved, or was not, is swept, and counts.
func TestSweepSaved(t *testing.T) { // P11.4, P11.5, P11.6
	for n := range 7 {
		d := strewn(t)
		saves(t, "ahead", d, other(), api.OK)
		ok(t, d.Fuse(n))
		manifest.Save(d, small())
		x, e := d.Lose(api.Loss{})
		ok(t, e)
		m, there, e := manifest.Load(x)
		if !there || e != api.OK {
			t.Fatalf("fuse %d: Load: %t, %d", n, there, e)
		}
		sweeps(t, "saved", x, m, len(manifest.Orphans(m, x.Names()...)), api.OK)
		orphans(t, "saved", m, x.Names())
		loads(t, "saved", x, m)
	}
}

// TestSweepDrawn: drawn manifests and names, held against the words.
func TestSweepDrawn(t *testing.T) { // P11.4, P11.6
	r := rand.New(rand.NewSource(6))
	for range 400 {
		m := drawn(r)
		m.Segment = r.Intn(30)
		d := newDisk(t, 1000)
		var want []string
		for range r.Intn(60) {
			name := []string{"run.", "journal.", "run.0", "run", "manifest", "manifest."}[r.Intn(6)]
			name += []string{strconv.Itoa(r.Intn(40)), strconv.Itoa(r.Intn(300)), "aside", ""}[r.Intn(4)]
			if d.Create(name) == api.OK && lost(m, name) {
				want = append(want, name)
			}
		}
		slices.Sort(want)
		left := slices.DeleteFunc(d.Names(), func(name string) bool { return slices.Contains(want, name) })
		orphans(t, "drawn", m, d.Names(), want...)
		sweeps(t, "drawn", d, m, len(want), api.OK)
		if l := d.Names(); !slices.Equal(l, left) {
			t.Errorf("files %q, want %q", l, left)
		}
	}
}

// lost tells if a name is an orphan, by the words: it is made of what there may be, not taken apart.
func lost(m api.Manifest, name string) bool {
	for n := range m.Segment {
		if name == "journal."+strconv.Itoa(n) {
			return true
		}
	}
	for n := range 300 {
		if name == "run."+strconv.Itoa(n) {
			return !strings.Contains(" "+runsOf(m)+" ", " "+name+" ")
		}
	}
	return name == "manifest.aside"
}

// runsOf are the runs of a manifest, in one text.
func runsOf(m api.Manifest) string {
	var l []string
	for _, r := range m.Rels {
		l = append(l, r.Runs...)
	}
	return strings.Join(l, " ")
}
