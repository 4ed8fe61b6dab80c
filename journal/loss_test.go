package journal_test

import (
	"math/rand"
	"slices"
	"strconv"
	"strings"
	"testing"

	"pedigree/api"
	"pedigree/disk"
	"pedigree/journal"
)

// whole tells the batches that a disk's journal has behind a loss of power: those told of before it, from one of them on, and perhaps the next one.
func whole(t *testing.T, what string, d *disk.Disk, told []string, next string) []string {
	t.Helper()
	j, e := journal.Open(d, set)
	if e != api.OK {
		t.Fatalf("%s: Open: %d", what, e)
	}
	p, e := j.First()
	ok(t, e)
	l := all(t, j)
	more := append(slices.Clone(told), next)
	if !slices.Equal(l, told[min(p.Batch, len(told)):]) && !slices.Equal(l, more[min(p.Batch, len(more)):]) || p.Batch+len(l) != j.End().Batch {
		t.Fatalf("%s: %q from %v to %v, not %q, perhaps with %q", what, l, p, j.End(), told, next)
	}
	return append(slices.Clone(told[:min(p.Batch, len(told))]), l...)
}

// TestLosses: at each modifying call of Append the power is lost, in all ways, and then once more.
func TestLosses(t *testing.T) { // P6.7
	told := threeBatches()
	for _, next := range []string{"", "abc", strings.Repeat("x", 41), strings.Repeat("x", 42), strings.Repeat("x", 130)} {
		for n := range 9 {
			d := laid(t, changed("j.4", segment(46, 5, strings.Repeat("stale", 9))))
			ok(t, d.Fuse(n))
			if opened(t, d, set).Append([]byte(next)) == api.OK {
				for _, x := range losses(t, d) {
					whole(t, "told", x, append(told, next), "never told")
				}
				break
			}
			for c, x := range losses(t, d) {
				what := "fuse " + strconv.Itoa(n) + ", dir " + strconv.Itoa(c.Dir)
				l := whole(t, what, x, told, next)
				ends(t, opened(t, x, set), opened(t, x, set).End().Segment, opened(t, x, set).End().At, len(l))
				again(t, what, x, l)
			}
		}
	}
}

// again loses the power of a disk once more, at each modifying call of another Append.
func again(t *testing.T, what string, d *disk.Disk, told []string) {
	t.Helper()
	next := strings.Repeat("z", 45)
	for n := range 9 {
		x, e := d.Lose(api.Loss{}) // all is fixed: a copy
		ok(t, e, x.Fuse(n))
		done := opened(t, x, set).Append([]byte(next)) == api.OK
		if done {
			told = append(slices.Clone(told), next)
		}
		for _, y := range losses(t, x) {
			l := whole(t, what+", again", y, told, next)
			if done && len(l) != len(told) {
				t.Fatalf("%s, again: %q", what, l)
			}
		}
		if done {
			return
		}
	}
	t.Errorf("%s: Append does not succeed", what)
}

// TestLossAtCreate: when Create succeeded, the journal is there behind every loss. Before that there is none, or the old one, whole.
func TestLossAtCreate(t *testing.T) { // P6.1, P6.7
	for n := range 13 {
		for _, old := range []bool{false, true} {
			d := newDisk(t, 100)
			if old {
				d = laid(t, three())
			}
			ok(t, d.Fuse(n))
			_, e := journal.Create(d, set)
			for c, x := range losses(t, d) {
				j, e2 := journal.Open(x, set)
				what := "fuse " + strconv.Itoa(n) + ", dir " + strconv.Itoa(c.Dir)
				switch {
				case e2 == api.OK && j.End() == api.Place{Segment: 1, At: 29}:
					if l := all(t, j); len(l) != 0 {
						t.Errorf("%s: %q", what, l)
					}
				case e == api.OK:
					t.Errorf("%s: Open: %d", what, e2)
				case e2 == api.OK:
					if l := all(t, j); !old || c.Dir != 0 || !slices.Equal(l, threeBatches()) {
						t.Errorf("%s: %q", what, l)
					}
				case old && c.Dir == 0 && n < 10 || e2 != api.ErrNone && e2 != api.ErrBad:
					t.Errorf("%s: Open: %d", what, e2)
				}
				appended(t, created(t, x, set), "new")
				if l := all(t, opened(t, x, set)); !slices.Equal(l, []string{"new"}) {
					t.Errorf("%s, created anew: %q", what, l)
				}
			}
		}
	}
}

// TestLossAtTrim: behind a loss of power the segments that are left have no gap, and can be trimmed.
func TestLossAtTrim(t *testing.T) { // P6.5, P6.7
	for n := range 4 {
		d := laid(t, three())
		ok(t, d.Fuse(n))
		opened(t, d, set).Trim(3)
		for c, x := range losses(t, d) {
			j := opened(t, x, set)
			begins(t, j, c.Dir+1, 2*c.Dir)
			whole(t, "Trim", x, threeBatches(), "never told")
			ok(t, j.Trim(3))
			begins(t, j, 3, 4)
			if l := x.Names(); !slices.Equal(l, []string{"j.3", "j.mark"}) {
				t.Errorf("files %q", l)
			}
		}
	}
}

// drawn is a journal on a disk, with what was told of it.
type drawn struct {
	r      *rand.Rand
	d      *disk.Disk
	j      *journal.Journal
	set    api.JournalConf
	told   []string
	places []api.Place
	end    api.Place
	first  int
}

// place notes a place, and that it is the end.
func (x *drawn) place(segment, at int) {
	x.end = api.Place{Segment: segment, At: at, Batch: len(x.told)}
	x.places = append(x.places, x.end)
}

// add notes a batch, by the document's words.
func (x *drawn) add(s string) {
	segment, at := x.end.Segment, x.end.At
	if at > 29 && at+13+len(s) > x.set.Segment {
		segment, at = segment+1, 29
		x.place(segment, at)
	}
	x.told = append(x.told, s)
	x.place(segment, at+13+len(s))
}

// held holds the journal against what was told.
func (x *drawn) held(t *testing.T) {
	t.Helper()
	if x.j.End() != x.end || x.j.Stuck() {
		t.Fatalf("End: %v, not %v; stuck: %v", x.j.End(), x.end, x.j.Stuck())
	}
	p, e := x.j.First()
	if e != api.OK || p.Segment != x.first || p.At != 29 || !slices.Contains(x.places, p) {
		t.Fatalf("First: %v, %d", p, e)
	}
	if l := all(t, x.j); !slices.Equal(l, x.told[p.Batch:]) {
		t.Fatalf("%q, not %q", l, x.told[p.Batch:])
	}
	for _, p := range x.places {
		if x.r.Intn(16) > 0 {
			continue
		}
		if p.Segment < x.first {
			fails(t, "trimmed", x.j, p, api.ErrPlace)
		} else {
			reads(t, x.j, p, x.told[p.Batch:]...)
		}
		p.At += x.r.Intn(3) - 1
		p.Batch += x.r.Intn(3) - 1
		if !slices.Contains(x.places, p) {
			fails(t, "no place", x.j, p, api.ErrPlace)
		}
	}
	besides(t, "drawn", x.d)
}

// lose loses the power, or, where it is certain which mark counts, may only forget the journal, and opens it anew. A batch may have come, and trimmed segments may have come back.
func (x *drawn) lose(t *testing.T, next string) {
	t.Helper()
	if x.j.Stuck() || x.r.Intn(4) > 0 {
		changes, sectors, sizes := x.d.Loose()
		c := api.Loss{Dir: x.r.Intn(changes + 1)}
		for range sectors {
			c.Keep = append(c.Keep, x.r.Intn(2) == 0)
		}
		for range sizes {
			c.Size = append(c.Size, x.r.Intn(2) == 0)
		}
		var e api.Errno
		x.d, e = x.d.Lose(c)
		ok(t, e)
	}
	ok(t, x.d.Fuse(1<<20))
	x.j = opened(t, x.d, x.set)
	if x.j.End().Batch != len(x.told) {
		x.add(next)
	}
	p, e := x.j.First()
	ok(t, e)
	if p.Segment > x.first {
		t.Fatalf("First: %v, not %d", p, x.first)
	}
	x.first = p.Segment
}

// step does one drawn thing.
func (x *drawn) step(t *testing.T) {
	t.Helper()
	next := strings.Repeat(strconv.Itoa(len(x.told)), x.r.Intn(1+x.r.Intn(60)))
	switch k := x.r.Intn(20); {
	case k < 11:
		ok(t, x.j.Append([]byte(next)))
		x.add(next)
	case k < 13:
		n := x.first + x.r.Intn(x.end.Segment-x.first+1)
		ok(t, x.j.Trim(n))
		if x.r.Intn(2) == 0 {
			ok(t, x.d.SyncDir())
		}
		x.first = n
	case k < 15:
		x.lose(t, "")
	default:
		ok(t, x.d.Fuse(x.r.Intn(9)))
		e := x.j.Append([]byte(next))
		switch {
		case e == api.OK:
			x.add(next)
		case e != api.ErrDown:
			t.Fatalf("Append: %d", e)
		}
		ok(t, x.d.Fuse(1<<20))
		if x.j.Stuck() {
			is(t, "Append", x.j.Append(nil), api.ErrStuck)
			x.lose(t, next)
		} else if e != api.OK && x.r.Intn(2) == 0 {
			x.lose(t, next)
		}
	}
}

// TestDrawn holds drawn calls, with fuses and losses of power among them, against the document's words.
func TestDrawn(t *testing.T) { // P6.1 to P6.9
	for seed := range 120 {
		r := rand.New(rand.NewSource(int64(seed)))
		x := &drawn{r: r, d: newDisk(t, 4096), set: api.JournalConf{Name: "j", Segment: 64 + r.Intn(200)}, first: 1}
		withOthers(t, x.d)
		x.j = created(t, x.d, x.set)
		x.place(1, 29)
		for range 100 {
			x.step(t)
			x.held(t)
			if t.Failed() {
				t.Fatalf("seed %d", seed)
			}
		}
	}
}
