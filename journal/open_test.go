package journal_test

import (
	"bytes"
	"math"
	"slices"
	"testing"

	"pedigree/api"
	"pedigree/journal"
)

// three are the files of a journal with three segments.
func three() map[string][]byte {
	one, two, last := segment(0, 0, "a", "bc"), segment(58, 2, "", "def"), segment(58, 4, "ghij")
	return map[string][]byte{"j.1": one, "j.2": two, "j.3": last, "j.mark": marked(3, uint64(len(last)), 5)}
}

// threePlaces are all its places.
func threePlaces() []api.Place {
	return []api.Place{
		{Segment: 1, At: 29}, {Segment: 1, At: 43, Batch: 1}, {Segment: 1, At: 58, Batch: 2},
		{Segment: 2, At: 29, Batch: 2}, {Segment: 2, At: 42, Batch: 3}, {Segment: 2, At: 58, Batch: 4},
		{Segment: 3, At: 29, Batch: 4}, {Segment: 3, At: 46, Batch: 5},
	}
}

func threeBatches() []string {
	return []string{"a", "bc", "", "def", "ghij"}
}

// changed are the files of that journal with one of them changed: none if b is nil.
func changed(name string, b []byte) map[string][]byte {
	files := three()
	files[name] = b
	if b == nil {
		delete(files, name)
	}
	return files
}

func TestOpen(t *testing.T) { // P6.2
	d := laid(t, three())
	before := shown(t, d)
	for _, n := range []int{64, 100, 1 << 19} { // how many bytes a segment has is no matter of the files
		j := opened(t, d, api.JournalConf{Name: "j", Segment: n})
		ends(t, j, 3, 46, 5)
		begins(t, j, 1, 0)
		if l := all(t, j); !slices.Equal(l, threeBatches()) {
			t.Errorf("batches %q", l)
		}
		if j.Stuck() {
			t.Error("stuck")
		}
	}
	ok(t, d.Fuse(0))
	j := opened(t, d, set)
	if l := all(t, j); !slices.Equal(l, threeBatches()) {
		t.Errorf("on a disk that is down: %q", l)
	}
	same(t, "Open", d, before)
}

func TestOpenNone(t *testing.T) { // P6.2
	refuses(t, "an empty disk", newDisk(t, 1), set, api.ErrNone)
	mark := marked(3, 46, 5)
	for what, b := range map[string][]byte{"no mark": nil, "no bytes": {}, "63 bytes": mark[:63], "65 bytes": append(bytes.Clone(mark), 0), "128 bytes": append(bytes.Clone(mark), mark...), "60 bytes": mark[:60]} {
		refuses(t, what, laid(t, changed("j.mark", b)), set, api.ErrNone)
		refuses(t, what, laid(t, map[string][]byte{"j.mark": b, "J.mark": mark}), set, api.ErrNone)
	}
	d := newDisk(t, 100)
	created(t, d, set)
	for _, name := range []string{"k", "J", "j.1", "j.mark", "jj"} {
		refuses(t, "the name "+name, d, api.JournalConf{Name: name, Segment: 100}, api.ErrNone)
	}
}

// TestOpenMark: each byte of a mark counts.
func TestOpenMark(t *testing.T) { // P6.2
	d := laid(t, three())
	for at := range 64 {
		for _, mask := range []byte{1, 2, 0x10, 0x80, 0xff} {
			ok(t, d.Rot("j.mark", at, mask))
			refuses(t, "a mark that is spoilt", d, set, api.ErrBad)
			ok(t, d.Rot("j.mark", at, mask))
		}
	}
	opened(t, d, set)
	good := marked(3, 46, 5)
	for at := range 60 { // sealed, but another one
		if at >= 4 && at < 28 {
			continue
		}
		for _, mask := range []byte{1, 0x20, 0xff} {
			b := bytes.Clone(good[:60])
			b[at] ^= mask
			refuses(t, "a mark that is none", laid(t, changed("j.mark", sealed(b))), set, api.ErrBad)
		}
	}
	for what, b := range map[string][]byte{"zeros": make([]byte, 64), "sealed zeros": sealed(make([]byte, 60)), "ones": bytes.Repeat([]byte{255}, 64), "a header": append(header(0, 0), make([]byte, 35)...)} {
		refuses(t, what, laid(t, changed("j.mark", b)), set, api.ErrBad)
	}
}

// TestOpenNumbers: the numbers of a mark have ranges, and the segment must be there.
func TestOpenNumbers(t *testing.T) { // P6.2
	for _, n := range [][3]uint64{
		{0, 46, 5}, {4, 46, 5}, {1 << 30, 46, 5}, {1<<30 + 1, 46, 5}, {1<<32 + 3, 46, 5}, {1 << 62, 46, 5}, {1<<63 + 3, 46, 5}, {math.MaxUint64, 46, 5},
		{3, 0, 5}, {3, 28, 5}, {3, 47, 5}, {3, 1 << 20, 5}, {3, 1<<32 + 46, 5}, {3, 1<<62 - 1, 5}, {3, 1 << 62, 5}, {3, 1<<63 + 46, 5}, {3, math.MaxUint64, 5},
		{3, 46, 1 << 62}, {3, 46, 1<<63 + 5}, {3, 46, math.MaxUint64},
	} {
		refuses(t, "numbers", laid(t, changed("j.mark", marked(n[0], n[1], n[2]))), set, api.ErrBad)
	}
	for _, n := range [][3]uint64{{1, 29, 0}, {1, 58, 2}, {2, 58, 4}, {3, 29, 4}, {3, 46, 5}, {3, 46, 1<<62 - 1}, {3, 46, 0}, {3, 30, 5}} {
		d := laid(t, changed("j.mark", marked(n[0], n[1], n[2])))
		ends(t, opened(t, d, set), int(n[0]), int(n[1]), int(n[2]))
	}
	for _, n := range []string{"1073741825", "2147483648", "4294967299"} {
		files := changed("j."+n, segment(0, 0, "x"))
		for _, k := range []uint64{1<<30 + 1, 1 << 31, 1<<32 + 3} {
			files["j.mark"] = marked(k, 29, 0)
			refuses(t, "segment "+n, laid(t, files), set, api.ErrBad)
		}
	}
	files := changed("j.mark", marked(1<<30, 43, 7))
	files["j.1073741824"] = segment(0, 6, "x")
	j := opened(t, laid(t, files), set)
	ends(t, j, 1<<30, 43, 7)
	begins(t, j, 1<<30, 6)
	files = changed("j.0", segment(0, 0, "x"))
	files["j.mark"] = marked(0, 43, 1)
	refuses(t, "segment 0", laid(t, files), set, api.ErrBad)
}

// noHeaders are bytes that do not begin with a header, though some of them are as long.
func noHeaders() map[string][]byte {
	body := numbers(58, 4)
	return map[string][]byte{
		"nothing": {}, "28 bytes": header(58, 4)[:28], "zeros": make([]byte, 29), "another kind": framed(1, body), "kind 0": framed(0, body), "kind 3": framed(3, body), "kind 130": framed(130, body),
		"no numbers": framed(2, nil), "one number": framed(2, numbers(58)), "three numbers": framed(2, numbers(58, 4, 0)), "15 bytes": framed(2, body[:15]), "17 bytes": framed(2, append(bytes.Clone(body), 0)),
		"a great number": header(1<<62, 4), "a great one behind": header(58, 1<<62), "the greatest": header(math.MaxUint64, 4), "the greatest behind": header(58, math.MaxUint64), "bit 63": header(58, 1<<63+4), "a byte ahead": append([]byte{2}, header(58, 4)...), "a batch": framed(1, []byte("x")),
	}
}

func TestOpenSegment(t *testing.T) { // P6.2
	last := three()["j.3"]
	refuses(t, "no last segment", laid(t, changed("j.3", nil)), set, api.ErrBad)
	for n := range len(last) {
		refuses(t, "a shorter segment", laid(t, changed("j.3", append([]byte{}, last[:n]...))), set, api.ErrBad)
	}
	frames := framed(1, []byte("ghij"))
	for what, b := range noHeaders() {
		refuses(t, what, laid(t, changed("j.3", append(append([]byte{}, b...), frames...))), set, api.ErrBad)
		refuses(t, what, laid(t, changed("j.3", append(bytes.Clone(b), make([]byte, 100)...))), set, api.ErrBad)
	}
	d := laid(t, three())
	for at := range 29 {
		for _, mask := range []byte{1, 0x80, 0xff} {
			ok(t, d.Rot("j.3", at, mask))
			refuses(t, "a header that is spoilt", d, set, api.ErrBad)
			ok(t, d.Rot("j.3", at, mask))
		}
	}
	opened(t, d, set)
}

// TestOpenLooksNoFurther: what is behind the header, and other segments, do not matter to Open.
func TestOpenLooksNoFurther(t *testing.T) { // P6.2
	last := three()["j.3"]
	for what, files := range map[string]map[string][]byte{
		"a batch is spoilt":    changed("j.3", append(header(58, 4), make([]byte, 17)...)),
		"more bytes":           changed("j.3", append(bytes.Clone(last), make([]byte, 300)...)),
		"another header":       changed("j.3", append(header(0, 1<<62-1), make([]byte, 17)...)),
		"no segment before it": changed("j.2", nil),
		"segment 1 is empty":   changed("j.1", []byte{}),
		"a later segment":      changed("j.4", []byte("rubbish")),
	} {
		j, e := journal.Open(laid(t, files), set)
		if e != api.OK {
			t.Errorf("%s: %d", what, e)
			continue
		}
		ends(t, j, 3, 46, 5)
	}
}

// TestOpenOrder: of several errors the first one is told.
func TestOpenOrder(t *testing.T) { // P6.2
	bad := api.JournalConf{Name: "", Segment: 1}
	refuses(t, "settings ahead of no mark", newDisk(t, 1), bad, api.ErrJournal)
	d := laid(t, map[string][]byte{"j.mark": make([]byte, 63)})
	refuses(t, "settings ahead of a short mark", d, api.JournalConf{Name: "j", Segment: 63}, api.ErrJournal)
	refuses(t, "a short mark ahead of no segment", d, set, api.ErrNone)
	d = laid(t, map[string][]byte{"j.mark": make([]byte, 64)})
	refuses(t, "settings ahead of no mark's bytes", d, api.JournalConf{Name: "j", Segment: 1<<19 + 1}, api.ErrJournal)
	refuses(t, "no mark's bytes and no segment", d, set, api.ErrBad)
}
