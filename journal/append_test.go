package journal_test

import (
	"bytes"
	"slices"
	"strings"
	"testing"

	"pedigree/api"
	"pedigree/disk"
	"pedigree/journal"
)

// TestAppendExample is the document's, byte by byte.
func TestAppendExample(t *testing.T) { // P6.3
	d := newDisk(t, 100)
	j := created(t, d, set)
	appended(t, j, "abc")
	ends(t, j, 1, 45, 1)
	want := append(header(0, 0), row("01 03 00 00 00 43 71 f7 e9 61 62 63 c2 41 24 35")...)
	if b := content(t, d, "j.1"); !bytes.Equal(b, want) {
		t.Errorf("j.1 is % x, not % x", b, want)
	}
	if b := content(t, d, "j.mark"); !bytes.Equal(b, marked(1, 45, 1)) {
		t.Errorf("j.mark is % x", b)
	}
	if c, s, z := d.Loose(); c != 0 || s != 0 || z != 0 {
		t.Errorf("loose %d, %d, %d", c, s, z)
	}
	begins(t, j, 1, 0)
	reads(t, j, api.Place{Segment: 1, At: 29}, "abc")
	ends(t, opened(t, d, set), 1, 45, 1)
}

// TestAppendFull: a segment that is just full goes on, and with one byte more a new one is begun.
func TestAppendFull(t *testing.T) { // P6.3
	for _, size := range []int{64, 65, 100, 1000, 1 << 19} {
		for _, more := range []int{0, 1, 2} {
			d := newDisk(t, 1<<15)
			j := created(t, d, api.JournalConf{Name: "j", Segment: size})
			at, n := 29, 0
			for at+2*13+1<<16 < size {
				appended(t, j, strings.Repeat("y", 1<<16))
				at, n = at+13+1<<16, n+1
			}
			appended(t, j, "")
			at, n = at+13, n+1
			ends(t, j, 1, at, n)
			last := max(size-at-13, 0) + more
			appended(t, j, strings.Repeat("x", last))
			if at+13+last <= size {
				ends(t, j, 1, size, n+1)
				appended(t, j, "")
				last, n = 0, n+1
				at = size
			}
			ends(t, j, 2, 29+13+last, n+1)
			if b := content(t, d, "j.2"); !bytes.Equal(b, segment(uint64(at), uint64(n), strings.Repeat("x", last))) {
				t.Errorf("%d: j.2 has %d bytes, % .60x", size, len(b), b)
			}
			if got := content(t, d, "j.1"); len(got) != at {
				t.Errorf("%d: j.1 has %d bytes, not %d", size, len(got), at)
			}
		}
	}
}

// TestAppendAlone: a batch that is greater than a segment has one of its own, which may be the first one.
func TestAppendAlone(t *testing.T) { // P6.3
	d := newDisk(t, 1<<13)
	j := created(t, d, api.JournalConf{Name: "j", Segment: 64})
	great := strings.Repeat("g", 1<<16)
	appended(t, j, great)
	ends(t, j, 1, 29+13+1<<16, 1)
	appended(t, j, "")
	ends(t, j, 2, 42, 2)
	appended(t, j, "123456789") // just full: 64
	ends(t, j, 2, 64, 3)
	appended(t, j, great)
	ends(t, j, 3, 29+13+1<<16, 4)
	appended(t, j, "x")
	ends(t, j, 4, 43, 5)
	for _, x := range []*journal.Journal{j, opened(t, d, set)} {
		if l := all(t, x); !slices.Equal(l, []string{great, "", "123456789", great, "x"}) {
			t.Errorf("%.99q", l)
		}
	}
	if b := content(t, d, "j.3"); !bytes.Equal(b, segment(64, 3, great)) {
		t.Errorf("j.3 has %d bytes, % .60x", len(b), b)
	}
}

func TestAppendLong(t *testing.T) { // P6.3
	d := newDisk(t, 1<<13)
	j := created(t, d, set)
	appended(t, j, "x")
	for _, n := range []int{1<<16 + 1, 1<<16 + 2, 1 << 17, 1 << 20, 1<<20 + 1} {
		is(t, "Append", j.Append(make([]byte, n)), api.ErrLong)
	}
	ends(t, j, 1, 43, 1)
	if l := d.Names(); len(l) != 2 || j.Stuck() {
		t.Errorf("files %q, %v", l, j.Stuck())
	}
	ok(t, j.Append(make([]byte, 1<<16)))
	ends(t, j, 2, 42+1<<16, 2)
	reads(t, j, api.Place{Segment: 1, At: 43, Batch: 1}, string(make([]byte, 1<<16)))
}

func TestAppendNone(t *testing.T) { // P6.3
	d := newDisk(t, 100)
	j := created(t, d, set)
	ok(t, j.Append(nil), j.Append([]byte{}), j.Append(nil))
	ends(t, j, 1, 68, 3)
	if b := content(t, d, "j.1"); !bytes.Equal(b, segment(0, 0, "", "", "")) {
		t.Errorf("j.1 is % x", b)
	}
	reads(t, j, api.Place{Segment: 1, At: 29}, "", "", "")
	reads(t, j, api.Place{Segment: 1, At: 55, Batch: 2}, "")
}

// TestAppendKeepsNothing: the bytes are the caller's.
func TestAppendKeepsNothing(t *testing.T) { // P6.3, the rule on memory
	d := newDisk(t, 100)
	j := created(t, d, set)
	b := []byte("abcdef")[:3]
	ok(t, j.Append(b))
	if string(b[:6]) != "abcdef" {
		t.Errorf("Append changes its bytes: %q", b[:6])
	}
	clear(b)
	reads(t, j, api.Place{Segment: 1, At: 29}, "abc")
	ok(t, j.Append(b), j.Append([]byte("z")))
	reads(t, j, api.Place{Segment: 1, At: 45, Batch: 1}, "\x00\x00\x00", "z")
}

// appends is a call of Append, to a journal that is opened.
func appends(t *testing.T, c api.JournalConf, s string) func(d *disk.Disk) func() api.Errno {
	return func(d *disk.Disk) func() api.Errno {
		j := opened(t, d, c)
		was := j.End()
		return func() api.Errno {
			e := j.Append([]byte(s))
			if e != api.OK && j.End() != was {
				t.Errorf("the end goes from %v to %v: %d", was, j.End(), e)
			}
			return e
		}
	}
}

func TestAppendSteps(t *testing.T) { // P6.3
	small := func() *disk.Disk { return laid(t, map[string][]byte{"j.1": header(0, 0), "j.mark": marked(1, 29, 0)}) }
	takes(t, small, appends(t, set, "abc"), writes("j.1", 29, framed(1, []byte("abc"))), syncs("j.1"), writes("j.mark", 0, marked(1, 45, 1)), syncs("j.mark"))
	takes(t, small, appends(t, set, strings.Repeat("x", 200)), writes("j.1", 29, framed(1, bytes.Repeat([]byte("x"), 200))), syncs("j.1"), writes("j.mark", 0, marked(1, 242, 1)), syncs("j.mark"))
	full := func() *disk.Disk { return laid(t, three()) }
	takes(t, full, appends(t, set, strings.Repeat("x", 41)), writes("j.3", 46, framed(1, bytes.Repeat([]byte("x"), 41))), syncs("j.3"), writes("j.mark", 0, marked(3, 100, 6)), syncs("j.mark"))
	rest := slices.Concat(creates("j.4"), writes("j.4", 0, segment(46, 5, strings.Repeat("x", 42))), syncs("j.4"), syncsDir(), writes("j.mark", 0, marked(4, 84, 6)), syncs("j.mark"))
	takes(t, full, appends(t, set, strings.Repeat("x", 42)), rest)
	stale := func() *disk.Disk {
		return laid(t, changed("j.4", segment(46, 5, strings.Repeat("stale", 20), "and more")))
	}
	takes(t, stale, appends(t, set, strings.Repeat("x", 42)), deletes("j.4"), rest)
	takes(t, stale, appends(t, set, strings.Repeat("x", 41)), writes("j.3", 46, framed(1, bytes.Repeat([]byte("x"), 41))), syncs("j.3"), writes("j.mark", 0, marked(3, 100, 6)), syncs("j.mark"))
}

// TestAppendOver: bytes behind the valid ones do not matter, and stay where a batch does not cover them.
func TestAppendOver(t *testing.T) { // P6.3
	last := append(three()["j.3"], bytes.Repeat([]byte("!"), 60)...)
	d := laid(t, changed("j.3", last))
	j := opened(t, d, set)
	ends(t, j, 3, 46, 5)
	appended(t, j, "xyz")
	ends(t, j, 3, 62, 6)
	if b := content(t, d, "j.3"); !bytes.Equal(b, append(segment(58, 4, "ghij", "xyz"), bytes.Repeat([]byte("!"), 44)...)) {
		t.Errorf("j.3 is %q", b)
	}
	reads(t, j, api.Place{Segment: 3, At: 29, Batch: 4}, "ghij", "xyz")
	j = opened(t, d, set)
	reads(t, j, api.Place{Segment: 1, At: 29}, append(threeBatches(), "xyz")...)
	appended(t, j, strings.Repeat("l", 30))
	ends(t, j, 4, 72, 7)
	if b := content(t, d, "j.4"); !bytes.Equal(b, segment(62, 6, strings.Repeat("l", 30))) {
		t.Errorf("j.4 is %q", b)
	}
}

// TestAppendMany: behind the segment with the greatest number there is none.
func TestAppendMany(t *testing.T) { // P6.3
	d := laid(t, map[string][]byte{"j.1073741823": segment(0, 0, "x"), "j.mark": marked(1<<30-1, 43, 1)})
	j := opened(t, d, set)
	appended(t, j, strings.Repeat("y", 50))
	ends(t, j, 1<<30, 92, 2)
	before := shown(t, d)
	is(t, "one more byte", j.Append(nil), api.ErrMany)
	is(t, "long", j.Append(make([]byte, 1<<16+1)), api.ErrLong)
	same(t, "a segment too many", d, before)
	j = opened(t, d, api.JournalConf{Name: "j", Segment: 105})
	appended(t, j, "")
	ends(t, j, 1<<30, 105, 3)
	ok(t, d.Fuse(0))
	is(t, "down", j.Append(nil), api.ErrMany)
	ends(t, j, 1<<30, 105, 3)
	if j.Stuck() {
		t.Error("stuck")
	}
	if l := all(t, j); !slices.Equal(l, []string{"x", strings.Repeat("y", 50), ""}) {
		t.Errorf("%q", l)
	}
	d = laid(t, map[string][]byte{"j.1073741824": header(0, 0), "j.mark": marked(1<<30, 29, 0)})
	appended(t, opened(t, d, set), strings.Repeat("z", 300)) // without a batch, the last one is long enough
}

// TestStuck: where the mark was written, and its Sync returned an error, nothing more is appended.
func TestStuck(t *testing.T) { // P6.3, P6.6
	for n, batch := range map[int]string{3: "abc", 5: strings.Repeat("x", 60)} {
		d := laid(t, three())
		j := opened(t, d, set)
		ok(t, d.Fuse(n))
		is(t, "Append", j.Append([]byte(batch)), api.ErrDown)
		ends(t, j, 3, 46, 5)
		if !j.Stuck() {
			t.Fatalf("fuse %d: not stuck", n)
		}
		ok(t, d.Fuse(1<<20))
		before := shown(t, d)
		is(t, "Append", j.Append([]byte("x")), api.ErrStuck)
		is(t, "Append long", j.Append(make([]byte, 1<<16+1)), api.ErrStuck)
		is(t, "Append none", j.Append(nil), api.ErrStuck)
		same(t, "a journal that is stuck", d, before)
		if !j.Stuck() {
			t.Errorf("fuse %d: not stuck any more", n)
		}
		begins(t, j, 1, 0)
		reads(t, j, api.Place{Segment: 1, At: 29}, threeBatches()...)
		ok(t, j.Trim(2))
		begins(t, j, 2, 2)
		x := opened(t, d, set)
		if x.Stuck() {
			t.Error("stuck, though opened anew")
		}
		reads(t, x, api.Place{Segment: 3, At: 46, Batch: 5}, batch)
		appended(t, x, "more")
		reads(t, x, api.Place{Segment: 3, At: 29, Batch: 4}, "ghij", batch, "more")
	}
}

// TestStuckMany: that a journal is stuck is told ahead of what else is wrong.
func TestStuckMany(t *testing.T) { // P6.3
	d := laid(t, map[string][]byte{"j.1073741824": segment(0, 0, "x"), "j.mark": marked(1<<30, 43, 1)})
	j := opened(t, d, set)
	ok(t, d.Fuse(3))
	is(t, "Append", j.Append(nil), api.ErrDown)
	is(t, "Append", j.Append(make([]byte, 100)), api.ErrStuck)
}

// TestNotStuck: after an error ahead of the mark's Sync, appending goes on, whatever was left there.
func TestNotStuck(t *testing.T) { // P6.3, P6.6
	for _, c := range []struct {
		batch string
		calls int
	}{{"abc", 3}, {strings.Repeat("x", 60), 5}} {
		for n := range c.calls {
			for _, next := range []string{"", "z", strings.Repeat("y", 41), strings.Repeat("y", 42), strings.Repeat("y", 400), c.batch} {
				d := laid(t, three())
				j := opened(t, d, set)
				ok(t, d.Fuse(n))
				is(t, "Append", j.Append([]byte(c.batch)), api.ErrDown)
				if j.Stuck() {
					t.Fatalf("fuse %d: stuck", n)
				}
				ends(t, j, 3, 46, 5)
				if got := content(t, d, "j.mark"); !bytes.Equal(got, marked(3, 46, 5)) {
					t.Errorf("fuse %d: the mark is % x", n, got)
				}
				if l := all(t, opened(t, d, set)); !slices.Equal(l, threeBatches()) {
					t.Errorf("fuse %d: %q", n, l)
				}
				ok(t, d.Fuse(1<<20))
				appended(t, j, next, "last")
				for _, x := range []*journal.Journal{j, opened(t, d, set)} {
					reads(t, x, api.Place{Segment: 1, At: 29}, append(threeBatches(), next, "last")...)
				}
			}
		}
	}
}

// TestAppendFails: an error of the disk is told as it occurs.
func TestAppendFails(t *testing.T) { // P6.3
	d := newDisk(t, 3)
	j := created(t, d, set)
	appended(t, j, "x")
	is(t, "no room", j.Append(make([]byte, 1000)), api.ErrFull) // in a new segment
	ends(t, j, 1, 43, 1)
	ok(t, j.Append(make([]byte, 44)))
	is(t, "no room", j.Append(nil), api.ErrFull)
	reads(t, j, api.Place{Segment: 1, At: 43, Batch: 1}, string(make([]byte, 44)))
	j = opened(t, d, api.JournalConf{Name: "j", Segment: 1000})
	is(t, "no room", j.Append(make([]byte, 200)), api.ErrFull)
	ends(t, j, 1, 100, 2)
	appended(t, j, "y")
	d = newDisk(t, 1000)
	j = created(t, d, set)
	appended(t, j, "x")
	for len(d.Names()) < api.MaxFiles {
		ok(t, d.Create(strings.Repeat("o", 1+len(d.Names())%60)+string(rune('A'+len(d.Names())/60))))
	}
	is(t, "too many files", j.Append(make([]byte, 100)), api.ErrMany)
	appended(t, j, "y")
	reads(t, j, api.Place{Segment: 1, At: 29}, "x", "y")
	ok(t, d.Delete("j.mark"))
	is(t, "no mark", j.Append([]byte("z")), api.ErrNone)
	if j.Stuck() {
		t.Error("stuck, though the mark was not written")
	}
	ok(t, d.Delete("j.1"))
	is(t, "no segment", j.Append([]byte("z")), api.ErrNone)
	ends(t, j, 1, 57, 2)
}
