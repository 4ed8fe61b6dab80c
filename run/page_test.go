package run_test

import (
	"bytes"
	"math"
	"math/rand"
	"slices"
	"strconv"
	"testing"

	"pedigree/api"
	"pedigree/disk"
	"pedigree/run"
)

// rotten tells if Page takes bytes for a page with this first tuple.
func rotten(t *testing.T, what string, first api.Tuple, page []byte) {
	t.Helper()
	other := []api.Counted{entry(9, sym("~"))}
	index := listed(2, 7, line{uint64(len(page)), keyed(first)}, line{uint64(len(sheet(other...))), keyed(other[0].T)})
	r := opened(t, laid(t, tailed(append(bytes.Clone(page), sheet(other...)...), sealed(index))))
	if p, e := r.Page(0); len(p) != 0 || e != api.ErrRot {
		t.Errorf("%s: Page(0): %v, %d", what, p, e)
	}
	if p, e := r.Page(1); e != api.OK || !same(p, other) { // each page is for itself
		t.Errorf("%s: Page(1): %v, %d", what, p, e)
	}
}

// whole tells if Page answers other entries for a page of these.
func whole(t *testing.T, what string, l ...api.Counted) {
	t.Helper()
	index := listed(1, 7, line{uint64(len(sheet(l...))), keyed(l[0].T)})
	r := opened(t, laid(t, tailed(sheet(l...), sealed(index))))
	if p, e := r.Page(0); e != api.OK || !same(p, l) {
		t.Errorf("%s: Page(0): %v, %d", what, p, e)
	}
}

func TestPage(t *testing.T) { // P7.4
	a, b, c := entry(1, num(1)), entry(-5, num(2)), entry(math.MinInt64, num(3))
	whole(t, "one", a)
	whole(t, "three", a, b, c)
	whole(t, "an empty tuple", entry(1), a)
	whole(t, "the widest", widest())
	whole(t, "256 bytes", wide('1', 128), wide('2', 128))
	whole(t, "257 bytes", wide('1', 128), wide('2', 129)) // how many bytes it has is not examined
	whole(t, "a thousand", numbered(1000)...)
	whole(t, "the widest, and more", a, widest(), entry(1, sym("a")))
}

// TestPageRotten: pages that are sealed, and none.
func TestPageRotten(t *testing.T) { // P7.4
	a, b, c := entry(1, num(1)), entry(1, num(2)), entry(1, num(3))
	for what, l := range map[string][]api.Counted{
		"falling":               {b, a},
		"falling, last":         {a, c, b},
		"alike":                 {a, a},
		"alike, other counts":   {a, entry(2, num(1))},
		"alike, last":           {a, b, b},
		"falling to a prefix":   {entry(1, num(1), num(1)), a},
		"falling to the empty":  {a, entry(1)},
		"a count of 0":          {entry(0, num(1))},
		"a count of 0, within":  {a, entry(0, num(2)), c},
		"a count of 0, last":    {a, b, entry(0, num(3))},
		"counts of 0":           {entry(0, num(1)), entry(0, num(2))},
		"a count of 0 and rise": {entry(0), a},
	} {
		rotten(t, what, l[0].T, sheet(l...))
	}
	for what, first := range map[string]api.Tuple{
		"less": {num(0)}, "more": {num(2)}, "the last": {num(3)}, "shorter": {}, "longer": {num(1), num(1)}, "a symbol": {sym("\x01")}, "the most": {num(math.MaxInt64)}, "the least": {num(math.MinInt64)}, "opposite": {num(-1)},
	} {
		rotten(t, "another first tuple, "+what, first, sheet(a, b, c))
	}
	rotten(t, "another first tuple than none", api.Tuple{}, sheet(a))
	three := joined([]api.Counted{a, b, c})
	for what, content := range map[string][]byte{
		"no bytes":              {},
		"no entries":            number(0),
		"no entries, but bytes": append(number(0), three...),
		"one of three":          append(number(1), three...),
		"two of three":          append(number(2), three...),
		"four of three":         append(number(4), three...),
		"2^63":                  append(number(1<<63), three...),
		"the most":              append(number(math.MaxUint64), three...),
		"a number of two bytes": append([]byte{0x83, 0}, three...),
		"a number too great":    append(bytes.Repeat([]byte{255}, 9), append([]byte{2}, three...)...),
		"a byte more":           append(number(3), append(bytes.Clone(three), 0)...),
		"a byte less":           append(number(3), three[:len(three)-1]...),
		"an entry cut":          append(number(3), three[:len(three)-3]...),
		"sealed bytes":          sheet(a, b, c),
		"no number":             three[1:],
		"a count of two bytes":  {1, 1, 1, 2, 0x82, 0},
		"an int of two bytes":   {1, 1, 1, 0x82, 0, 2},
		"kind 0":                {1, 1, 0, 2, 2},
		"kind 3":                {1, 1, 3, 2, 2},
		"nine values":           slices.Concat([]byte{2}, coded(a), []byte{9}, bytes.Repeat([]byte{1, 4}, 9), []byte{2}),
		"a symbol of 257 bytes": slices.Concat([]byte{2}, coded(a), []byte{1, 2, 0x81, 2}, bytes.Repeat([]byte{'m'}, 257), []byte{2}),
	} {
		rotten(t, what, a.T, sealed(content))
	}
	rotten(t, "no bytes at all", a.T, nil)
	rotten(t, "three bytes", a.T, []byte{0, 0, 0})
	rotten(t, "sealed twice", a.T, sealed(sheet(a)))
	rotten(t, "a byte behind the seal", a.T, append(sheet(a), 0))
	rotten(t, "a byte ahead", a.T, append([]byte{0}, sheet(a)...))
	rotten(t, "another page behind", a.T, append(sheet(a), sheet(b)...))
	rotten(t, "unsealed", a.T, append(number(1), coded(a)...))
	for i := range sheet(a, b, c) {
		wrong := sheet(a, b, c)
		wrong[i] ^= 0x10
		rotten(t, "byte "+strconv.Itoa(i), a.T, wrong)
	}
}

// TestPageAlone: what other pages, and the index, tell of entries is not examined.
func TestPageAlone(t *testing.T) { // P7.4
	for what, pages := range map[string][][]api.Counted{
		"pages that cross":     {append(numbered(63), entry(1, num(1000))), {entry(1, num(64)), entry(1, num(65))}, {entry(2, num(70))}},
		"pages that are small": {numbered(3), {entry(1, num(3))}, {entry(1, num(4))}},
		"pages that are great": {numbered(500), {entry(1, num(1000)), widest()}, {entry(5, sym("zz"))}},
	} {
		var b []byte
		var lines []line
		for _, p := range pages {
			b = append(b, sheet(p...)...)
			lines = append(lines, line{uint64(len(sheet(p...))), keyed(p[0].T)})
		}
		r := opened(t, laid(t, tailed(b, sealed(listed(uint64(len(pages)), 1, lines...)))))
		for i, p := range pages {
			if x, e := r.Page(i); e != api.OK || !same(x, p) {
				t.Errorf("%s: Page(%d): %v, %d", what, i, x, e)
			}
		}
	}
}

// TestPageDisk: a page is read from the file that has the name now.
func TestPageDisk(t *testing.T) { // P7.4
	l := numbered(200)
	b := filed(paged(l)...)
	d := laid(t, b)
	r := opened(t, d)
	ok(t, d.Fuse(0)) // nothing is modified
	holds(t, "down", r, l)
	ok(t, d.Fuse(100), d.Delete("r"))
	pageFails(t, "no file", r, api.ErrNone)
	put(t, d, "r", nil)
	pageFails(t, "no bytes", r, api.ErrRange)
	put(t, d, "r", make([]byte, len(b)))
	pageFails(t, "zeros", r, api.ErrRot)
	put(t, d, "r", append([]byte{0}, b...))
	pageFails(t, "a byte ahead", r, api.ErrRot)
	put(t, d, "r", b)
	holds(t, "the same bytes", r, l)
	put(t, d, "r", b[:len(sheet(l[:64]...))])
	if p, e := r.Page(0); e != api.OK || !same(p, l[:64]) {
		t.Errorf("Page(0): %v, %d", p, e)
	}
	if p, e := r.Page(1); len(p) != 0 || e != api.ErrRange {
		t.Errorf("Page(1): %v, %d", p, e)
	}
	put(t, d, "r", append(b[:len(b)-5:len(b)-5], 1, 2, 3)) // the index was read at Open
	holds(t, "a spoilt index", r, l)
	ok(t, d.Rename("r", "s"))
	pageFails(t, "renamed", r, api.ErrNone)
	if n, k := r.Len(); n != len(paged(l)) || k != len(l) || r.Name() != "r" || r.Find(l[70].T) != 1 {
		t.Errorf("%d, %d, %q, %d", n, k, r.Name(), r.Find(l[70].T))
	}
	*d = disk.Disk{}
	pageFails(t, "no disk any more", r, api.ErrNil)
}

// pageFails tells if pages of a run are read, or refused by another error.
func pageFails(t *testing.T, what string, r *run.Run, want api.Errno) {
	t.Helper()
	n, _ := r.Len()
	for i := range n {
		if p, e := r.Page(i); len(p) != 0 || e != want {
			t.Errorf("%s: Page(%d): %v, %d, not %d", what, i, p, e, want)
		}
	}
}

// TestPageNew: a page is new memory each time.
func TestPageNew(t *testing.T) { // P7.4, with the rule on memory
	l := numbered(200)
	d := laid(t, filed(paged(l)...))
	r := opened(t, d)
	for i := range paged(l) {
		p, _ := r.Page(i)
		spoil(p)
		holds(t, "spoilt answers", r, l)
	}
	if !bytes.Equal(content(t, d, "r"), filed(paged(l)...)) {
		t.Error("the file has changed")
	}
}

// TestRoundTrip: what was written is read page by page.
func TestRoundTrip(t *testing.T) { // P7.5, P7.6
	for _, l := range runs() {
		d := newDisk(t, api.MaxRoom)
		if e := run.Write(d, "r", l...); e != api.OK {
			t.Fatal(e)
		}
		r := opened(t, d)
		pages, _ := run.Pages(l...)
		n, k := r.Len()
		if n != len(pages) || k != len(l) {
			t.Fatalf("Len: %d, %d, not %d, %d", n, k, len(pages), len(l))
		}
		for i, p := range pages {
			x, e := r.Page(i)
			if e != api.OK || !same(x, p) {
				t.Fatalf("Page(%d): %v, %d, not %v", i, x, e, p)
			}
			for _, c := range p {
				if r.Find(c.T) != i {
					t.Fatalf("Find(%v): %d, not %d", c.T, r.Find(c.T), i)
				}
			}
		}
	}
}

// part is some bytes of a file, with those that read them.
type part struct {
	at, size int
	read     func() api.Errno
}

// parts are the pages of a file, the index, and the tail.
func parts(t *testing.T, d *disk.Disk, l []api.Counted) []part {
	t.Helper()
	r := opened(t, d)
	open := func() api.Errno {
		_, e := run.Open(d, "r")
		return e
	}
	var out []part
	at := 0
	for i, p := range paged(l) {
		out = append(out, part{at, len(sheet(p...)), func() api.Errno {
			_, e := r.Page(i)
			return e
		}})
		at += len(sheet(p...))
	}
	size, _ := d.Size("r")
	return append(out, part{at, size - 8 - at, open}, part{size - 8, 8, open})
}

// invert inverts the bits of a pattern, from a bit of the file on.
func invert(t *testing.T, d *disk.Disk, from int, pattern uint64) {
	t.Helper()
	pattern <<= from % 8
	for at := from / 8; pattern != 0; at++ {
		if mask := byte(pattern); mask != 0 {
			ok(t, d.Rot("r", at, mask))
		}
		pattern >>= 8
	}
}

// bursts are patterns of bits of at most 32: all short ones, all of two bits, and some of the others.
func bursts(r *rand.Rand) []uint64 {
	var l []uint64
	for x := uint64(1); x < 1<<7; x += 2 {
		l = append(l, x)
	}
	for n := range 32 {
		l = append(l, 1|1<<n, 1<<(n+1)-1)
		for range 2 {
			l = append(l, 1|1<<n|uint64(r.Uint32())&(1<<n-1))
		}
	}
	return l
}

// TestBursts: some bits within 32 consecutive ones of a page, the index or the tail are inverted.
func TestBursts(t *testing.T) { // P7.7
	rnd := rand.New(rand.NewSource(6))
	few := append(numbered(2), wide('a', 251), entry(-7, sym("b"), num(5)))
	for _, l := range [][]api.Counted{nil, {entry(1, num(5))}, {entry(1), entry(2, sym("abc"))}, few} {
		b := filed(paged(l)...)
		d := laid(t, b)
		for _, p := range parts(t, d, l) {
			for from := 8 * p.at; from < 8*(p.at+p.size); from++ {
				for _, pattern := range bursts(rnd) {
					if from+bitLength(pattern) > 8*(p.at+p.size) {
						continue
					}
					invert(t, d, from, pattern)
					if e := p.read(); e != api.ErrRot {
						t.Fatalf("bits %b from %d on are inverted: %d", pattern, from, e)
					}
					invert(t, d, from, pattern)
				}
			}
		}
		if !bytes.Equal(content(t, d, "r"), b) {
			t.Error("the bits were not inverted back")
		}
		holds(t, "inverted back", opened(t, d), l)
	}
}

func bitLength(x uint64) int {
	n := 0
	for ; x != 0; x >>= 1 {
		n++
	}
	return n
}

// TestBurstsParse: Parse reads all of the bytes.
func TestBurstsParse(t *testing.T) { // P7.7
	rnd := rand.New(rand.NewSource(7))
	l := append(numbered(2), wide('a', 251))
	b := filed(paged(l)...)
	d := laid(t, b)
	for _, p := range parts(t, d, l) {
		for from := 8 * p.at; from < 8*(p.at+p.size); from++ {
			for _, pattern := range bursts(rnd)[64:] {
				if from+bitLength(pattern) > 8*(p.at+p.size) {
					continue
				}
				invert(t, d, from, pattern)
				isNone(t, "a burst", content(t, d, "r"))
				invert(t, d, from, pattern)
			}
		}
	}
	parses(t, "inverted back", content(t, d, "r"), l)
}
