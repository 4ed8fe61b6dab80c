package run_test

import (
	"bytes"
	"encoding/binary"
	"math"
	"math/rand"
	"slices"
	"strings"
	"testing"

	"pedigree/api"
	"pedigree/disk"
	"pedigree/run"
)

func TestOpen(t *testing.T) { // P7.3, P7.5
	for i, l := range runs() {
		b := filed(paged(l)...)
		if len(b) > api.MaxFile {
			continue
		}
		d := laid(t, b)
		ok(t, d.Fuse(0)) // nothing is modified
		r := opened(t, d)
		if r.Name() != "r" {
			t.Errorf("run %d: Name: %q", i, r.Name())
		}
		holds(t, "a run", r, l)
	}
}

func TestOpenEmpty(t *testing.T) { // P7.3
	r := opened(t, laid(t, row("00 00 ff 12 d9 41 06 00 00 00 c0 80 2f 04")))
	if n, k := r.Len(); n != 0 || k != 0 || r.Name() != "r" {
		t.Errorf("Len: %d, %d, %q", n, k, r.Name())
	}
	for _, i := range []int{0, -1, 1} {
		outside(t, r, i)
	}
	for _, x := range []api.Tuple{nil, {}, {num(5)}, {sym("a")}, {{}}} {
		if k := r.Find(x); k != -1 {
			t.Errorf("Find(%v): %d", x, k)
		}
	}
}

// outside tells if there is a page i.
func outside(t *testing.T, r *run.Run, i int) {
	t.Helper()
	if f, e := r.Fence(i); len(f) != 0 || e != api.ErrRange {
		t.Errorf("Fence(%d): %v, %d", i, f, e)
	}
	if p, e := r.Page(i); len(p) != 0 || e != api.ErrRange {
		t.Errorf("Page(%d): %v, %d", i, p, e)
	}
}

// TestOutside: pages that there are not, also where the disk would have an error of its own.
func TestOutside(t *testing.T) { // P7.3, P7.4
	for _, l := range [][]api.Counted{numbered(1), numbered(64), numbered(65), numbered(300)} {
		d := laid(t, filed(paged(l)...))
		r := opened(t, d)
		n := len(paged(l))
		for range 2 {
			for _, i := range []int{-1, n, n + 1, -2, -n, math.MinInt, math.MaxInt, 1 << 32, -1 << 32} {
				outside(t, r, i)
			}
			ok(t, d.Delete("r"))
			put(t, d, "s", nil)
			ok(t, d.Rename("s", "r"))
		}
	}
}

// TestNotMade: nothing but Open makes a run.
func TestNotMade(t *testing.T) { // P7.3, P7.4
	taken := *opened(t, laid(t, filed(numbered(3))))
	for _, r := range []*run.Run{nil, {}, &taken} {
		if n, k := r.Len(); r.Name() != "" || n != 0 || k != 0 {
			t.Errorf("Name, Len: %q, %d, %d", r.Name(), n, k)
		}
		for _, x := range []api.Tuple{nil, {num(-1)}, {num(5)}, {{}}} {
			if k := r.Find(x); k != 0 {
				t.Errorf("Find(%v): %d", x, k)
			}
		}
		for _, i := range []int{0, -1, 1, math.MaxInt, math.MinInt} {
			if f, e := r.Fence(i); len(f) != 0 || e != api.ErrNil {
				t.Errorf("Fence(%d): %v, %d", i, f, e)
			}
			if p, e := r.Page(i); len(p) != 0 || e != api.ErrNil {
				t.Errorf("Page(%d): %v, %d", i, p, e)
			}
		}
	}
}

func TestOpenNoFile(t *testing.T) { // P7.3
	d := laid(t, filed(numbered(3)))
	taken := *d
	for _, name := range []string{"r", "s", ""} {
		for _, x := range []*disk.Disk{nil, {}, &taken} {
			refuses(t, "no disk", x, name, api.ErrNil)
		}
	}
	for _, name := range []string{"", "s", "R", "r ", "rr", "r\x00", strings.Repeat("n", 65)} {
		refuses(t, "no file", d, name, api.ErrNone)
	}
	ok(t, d.Create("s"), d.Rename("r", "t"))
	refuses(t, "no file any more", d, "r", api.ErrNone)
	refuses(t, "no bytes", d, "s", api.ErrRot)
}

// TestOpenCut: a file that ends elsewhere.
func TestOpenCut(t *testing.T) { // P7.3
	for _, l := range [][]api.Counted{nil, numbered(1), numbered(70)} {
		b := filed(paged(l)...)
		for n := range b {
			if n < 100 || n > len(b)-100 {
				rots(t, "cut behind", b[:n])
				rots(t, "cut ahead", b[n+1:])
			}
		}
		for _, x := range [][]byte{{0}, {0, 0, 0, 0}, {255}, b[:1], b[len(b)-8:], filed(), sealed(nil)} {
			rots(t, "goes on", slices.Concat(b, x))
			rots(t, "begins early", slices.Concat(x, b))
		}
	}
	for n := range 30 {
		rots(t, "zeros", make([]byte, n))
		rots(t, "ones", bytes.Repeat([]byte{255}, n))
	}
}

// TestOpenSeals: each byte of the index and of the tail counts, and none of the pages does.
func TestOpenSeals(t *testing.T) { // P7.3, P7.7
	for _, l := range [][]api.Counted{nil, numbered(1), numbered(70)} {
		b := filed(paged(l)...)
		pages := 0
		for _, p := range paged(l) {
			pages += len(sheet(p...))
		}
		for i := range b {
			wrong := bytes.Clone(b)
			wrong[i] ^= 0x40
			if i >= pages {
				rots(t, "a byte is wrong", wrong)
				continue
			}
			if n, k := opened(t, laid(t, wrong)).Len(); n != len(paged(l)) || k != len(l) {
				t.Errorf("byte %d: Len: %d, %d", i, n, k)
			}
		}
		clear(b[:pages])
		opened(t, laid(t, b))
	}
}

// TestOpenTail: the size of the index is any other than it has.
func TestOpenTail(t *testing.T) { // P7.3
	for _, l := range [][]api.Counted{nil, numbered(1), numbered(70)} {
		b := filed(paged(l)...)
		ahead := b[:len(b)-8]
		size := binary.LittleEndian.Uint32(b[len(b)-8:])
		for n := range uint32(len(b) + 20) {
			file := append(bytes.Clone(ahead), sealed(binary.LittleEndian.AppendUint32(nil, n))...)
			if n != size {
				rots(t, "another size", file)
			}
		}
		for _, n := range []uint32{1 << 8, 1 << 16, 1 << 20, 1 << 24, 1 << 31, 1<<31 - 1, math.MaxUint32, math.MaxUint32 - 7, -size} {
			rots(t, "a great size", append(bytes.Clone(ahead), sealed(binary.LittleEndian.AppendUint32(nil, n+size))...))
		}
		rots(t, "the most significant byte first", append(bytes.Clone(ahead), sealed(binary.BigEndian.AppendUint32(nil, size))...))
		rots(t, "three bytes", append(bytes.Clone(ahead), sealed([]byte{byte(size), byte(size >> 8), byte(size >> 16)})...))
		rots(t, "eight bytes", append(bytes.Clone(ahead), sealed(binary.LittleEndian.AppendUint64(nil, uint64(size)))...))
		rots(t, "unsealed", append(bytes.Clone(ahead), byte(size), byte(size>>8), 0, 0))
	}
}

// keyOf is the key of a tuple of one int.
func keyOf(n int64) []byte { return keyed(api.Tuple{num(n)}) }

// TestOpenIndex: an index that is sealed, and none.
func TestOpenIndex(t *testing.T) { // P7.3
	one, two, three := keyOf(1), keyOf(2), keyOf(3)
	pages := make([]byte, 100) // what they hold is not examined
	good := listed(2, 5, line{40, one}, line{60, two})
	for what, index := range map[string][]byte{
		"no bytes":               {},
		"one number":             number(0),
		"no pages, but bytes":    listed(0, 0),
		"a page too few":         listed(2, 5, line{100, one}),
		"a page too many":        listed(1, 5, line{100, one}, line{0, two}),
		"the most pages":         listed(math.MaxUint64, 5, line{40, one}, line{60, two}),
		"2^63 pages":             listed(1<<63, 5, line{100, one}),
		"too many entries":       listed(2, 1<<63, line{40, one}, line{60, two}),
		"the most entries":       listed(2, math.MaxUint64, line{40, one}, line{60, two}),
		"alike":                  listed(2, 5, line{40, one}, line{60, one}),
		"falling":                listed(2, 5, line{40, two}, line{60, one}),
		"falling at the end":     listed(3, 5, line{40, one}, line{30, three}, line{30, two}),
		"falling at the start":   listed(3, 5, line{40, two}, line{30, one}, line{30, three}),
		"alike, far":             listed(3, 5, line{40, one}, line{30, two}, line{30, two}),
		"alike, empty":           listed(2, 5, line{40, nil}, line{60, nil}),
		"falling to the empty":   listed(2, 5, line{40, one}, line{60, nil}),
		"falling to a prefix":    listed(2, 5, line{40, append(bytes.Clone(one), two...)}, line{60, one}),
		"falling kinds":          listed(2, 5, line{40, keyed(api.Tuple{sym("")})}, line{60, one}),
		"no key":                 listed(2, 5, line{40, []byte{3}}, line{60, one}),
		"no key, zeros":          listed(2, 5, line{40, make([]byte, 9)}, line{60, one}),
		"no key, the last":       listed(2, 5, line{40, one}, line{60, append(bytes.Clone(two), 1)}),
		"a key that is cut":      listed(2, 5, line{40, one[:8]}, line{60, two}),
		"a key of nine values":   listed(2, 5, line{40, bytes.Repeat(one, 9)}, line{60, two}),
		"a key of 257 bytes":     listed(1, 5, line{100, keyed(api.Tuple{sym(strings.Repeat("m", 257))})}),
		"a tuple for a key":      listed(1, 5, line{100, []byte{1, 1, 2}}),
		"99 bytes":               listed(2, 5, line{40, one}, line{59, two}),
		"101 bytes":              listed(2, 5, line{40, one}, line{61, two}),
		"101 bytes in one":       listed(1, 5, line{101, one}),
		"101 bytes ahead":        listed(2, 5, line{101, one}, line{0, two}),
		"2^64 bytes and 100":     listed(2, 5, line{1 << 63, one}, line{1<<63 + 100, two}),
		"2^64 bytes and 100, +":  listed(3, 5, line{100, one}, line{1 << 63, two}, line{1 << 63, three}),
		"-1 and 101 bytes":       listed(2, 5, line{math.MaxUint64, one}, line{101, two}),
		"101 and -1 bytes":       listed(2, 5, line{101, one}, line{math.MaxUint64, two}),
		"40 and -1 and 61 bytes": listed(3, 5, line{40, one}, line{math.MaxUint64, two}, line{61, three}),
		"2^32 bytes and 100":     listed(1, 5, line{1<<32 + 100, one}),
		"2^63 bytes and 100":     listed(1, 5, line{1<<63 + 100, one}),
		"a byte more":            append(bytes.Clone(good), 0),
		"a byte less":            good[:len(good)-1],
		"a line more":            append(bytes.Clone(good), listed(0, 0, line{0, three})[2:]...),
		"no line, half a line":   append(bytes.Clone(good), 5),
		"pages in two bytes":     append([]byte{0x82, 0}, good[1:]...),
		"entries in two bytes":   append([]byte{2, 0x85, 0}, good[2:]...),
		"a size in two bytes":    append([]byte{2, 5, 0xa8, 0}, good[3:]...),
		"a length in two bytes":  append([]byte{2, 5, 40, 0x89, 0}, good[4:]...),
		"a length too great":     append([]byte{2, 5, 40, 0xff, 0xff, 0xff, 0xff, 0x0f}, good[4:]...),
		"a size too great":       append([]byte{2, 5, 0xff, 0xff, 0xff, 0xff, 0xff, 0xff, 0xff, 0xff, 0xff, 2}, good[3:]...),
	} {
		rots(t, what, tailed(pages, sealed(index)))
		rots(t, what+", unsealed", tailed(pages, index))
	}
	rots(t, "bytes between", tailed(pages, append(sealed(good), 0)))
	rots(t, "no seal", tailed(pages, good))
	rots(t, "sealed twice", tailed(pages, sealed(sealed(good))))
	wrong := sealed(good)
	wrong[len(wrong)-1] ^= 1
	rots(t, "another seal", tailed(pages, wrong))
	if n, k := opened(t, laid(t, tailed(pages, sealed(good)))).Len(); n != 2 || k != 5 {
		t.Errorf("Len: %d, %d", n, k)
	}
}

// TestOpenStates: what an index states is told as it stands there, whatever the pages hold.
func TestOpenStates(t *testing.T) { // P7.3
	one, two, three := keyOf(1), keyOf(2), keyOf(3)
	for _, c := range []struct {
		bytes, pages int
		entries      uint64
		lines        []line
	}{
		{0, 0, 0, nil},
		{0, 0, 1, nil},
		{0, 0, math.MaxInt64, nil},
		{100, 1, 0, []line{{100, one}}},
		{100, 1, math.MaxInt64, []line{{100, one}}},
		{100, 1, math.MaxInt64 - 1, []line{{100, nil}}},
		{0, 3, 2, []line{{0, one}, {0, two}, {0, three}}},
		{1, 3, 127, []line{{0, one}, {1, two}, {0, three}}},
		{3000, 3, 128, []line{{1, nil}, {2998, one}, {1, append(bytes.Clone(one), two...)}}},
		{100, 2, 1 << 32, []line{{99, bytes.Repeat(one, 8)}, {1, keyed(widest().T)}}},
	} {
		d := laid(t, tailed(make([]byte, c.bytes), sealed(listed(uint64(c.pages), c.entries, c.lines...))))
		r := opened(t, d)
		if n, k := r.Len(); n != c.pages || k != int(c.entries) {
			t.Errorf("Len: %d, %d, not %d, %d", n, k, c.pages, c.entries)
		}
		for i, x := range c.lines {
			if f, e := r.Fence(i); e != api.OK || !bytes.Equal(keyed(f), x.key) {
				t.Errorf("Fence(%d): %v, %d", i, f, e)
			}
			if p, e := r.Page(i); len(p) != 0 || e != api.ErrRot {
				t.Errorf("Page(%d): %v, %d", i, p, e)
			}
		}
		outside(t, r, c.pages)
	}
}

// described tells if bytes are an index of so many bytes of pages, by the document's words.
func described(b []byte, size uint64) bool {
	whole := b
	next := func() (uint64, bool) {
		x, n := binary.Uvarint(b)
		if n <= 0 {
			return 0, false
		}
		b = b[n:]
		return x, true
	}
	pages, ok1 := next()
	entries, ok2 := next()
	if !ok1 || !ok2 || entries > math.MaxInt64 {
		return false
	}
	var lines []line
	for len(b) > 0 {
		n, ok1 := next()
		length, ok2 := next()
		if !ok1 || !ok2 || length > uint64(len(b)) || n > size {
			return false
		}
		lines = append(lines, line{n, b[:length]})
		size -= n
		b = b[length:]
	}
	for i, x := range lines {
		if !isKey(x.key) || i > 0 && bytes.Compare(lines[i-1].key, x.key) >= 0 {
			return false
		}
	}
	return size == 0 && uint64(len(lines)) == pages && bytes.Equal(whole, listed(pages, entries, lines...))
}

// isKey tells if bytes are a key: how many values it has is not asked, since no drawn bytes are enough for nine.
func isKey(k []byte) bool {
	for len(k) > 0 {
		switch {
		case k[0] == 1 && len(k) >= 9:
			k = k[9:]
		case k[0] == 2:
			end := bytes.Index(k, []byte{0, 1})
			if end < 0 || bytes.Contains(bytes.ReplaceAll(k[1:end], []byte{0, 255}, nil), []byte{0}) {
				return false
			}
			k = k[end+2:]
		default:
			return false
		}
	}
	return true
}

// TestOpenDrawn goes through short bytes, sealed: they are an index just if the document says so.
func TestOpenDrawn(t *testing.T) { // P7.3
	r := rand.New(rand.NewSource(4))
	d := newDisk(t, 100)
	taken := 0
	for range 60000 {
		pages := make([]byte, r.Intn(4))
		b := make([]byte, r.Intn(13))
		for i := range b {
			b[i] = []byte{0, 0, 0, 1, 1, 1, 2, 2, 3, 4, 5, 0x80, 0x81, 255}[r.Intn(14)]
		}
		if r.Intn(2) == 0 {
			b = append([]byte{byte(r.Intn(3)), byte(r.Intn(3)), byte(r.Intn(4)), 0}, b[:len(b)/2]...)
		}
		put(t, d, "r", tailed(pages, sealed(b)))
		x, e := run.Open(d, "r")
		if want := described(b, uint64(len(pages))); want != (e == api.OK) || want != (x != nil) || !want && e != api.ErrRot {
			t.Fatalf("% x ahead of %d bytes: Open: %d", b, len(pages), e)
		}
		if e == api.OK {
			taken++
		}
	}
	if taken < 500 {
		t.Errorf("only %d are an index", taken)
	}
}

// TestFence: the first tuples are new each time.
func TestFence(t *testing.T) { // P7.3, with the rule on memory
	l := numbered(200)
	r := opened(t, laid(t, filed(paged(l)...)))
	for i, p := range paged(l) {
		f, e := r.Fence(i)
		if e != api.OK || !slices.Equal(f, p[0].T) {
			t.Errorf("Fence(%d): %v, %d", i, f, e)
		}
		f[0] = num(-7)
		_ = append(f, num(8))
		if f, e := r.Fence(i); e != api.OK || !slices.Equal(f, p[0].T) {
			t.Errorf("Fence(%d): %v, %d", i, f, e)
		}
		if x, e := r.Page(i); e != api.OK || !same(x, p) {
			t.Errorf("Page(%d): %v, %d", i, x, e)
		}
		if k := r.Find(p[0].T); k != i {
			t.Errorf("Find(%v): %d", p[0].T, k)
		}
	}
}

// found is how many pages have a first tuple that is not greater than t, minus 1.
func found(pages [][]api.Counted, t api.Tuple) int {
	n := 0
	for _, p := range pages {
		if order(p[0].T, t) <= 0 {
			n++
		}
	}
	return n - 1
}

func TestFind(t *testing.T) { // P7.3
	var l []api.Counted
	for i := range int64(500) {
		l = append(l, entry(1, num(10*i)))
	}
	r := opened(t, laid(t, filed(paged(l)...)))
	pages := paged(l)
	for i, p := range pages {
		first := p[0].T[0].N
		last := p[len(p)-1].T[0].N
		for n, want := range map[int64]int{first: i, first - 1: i - 1, first + 1: i, last: i, last + 1: i, last - 1: i, last + 9: i, last + 10: min(i+1, len(pages)-1)} {
			if k := r.Find(api.Tuple{num(n)}); k != want {
				t.Errorf("Find(%d): %d, not %d", n, k, want)
			}
		}
		for _, x := range []api.Tuple{{num(first), num(math.MinInt64)}, {num(first), sym("")}} { // the first tuple is its prefix
			if k := r.Find(x); k != i {
				t.Errorf("Find(%v): %d, not %d", x, k, i)
			}
		}
	}
	for _, x := range []api.Tuple{nil, {}, {num(-1)}, {num(math.MinInt64)}, {num(-1), sym("a")}, {{}}, {{N: 5}}, {{Kind: -1, N: math.MaxInt64}}} {
		if k := r.Find(x); k != -1 {
			t.Errorf("Find(%v): %d, not -1", x, k)
		}
	}
	for _, x := range []api.Tuple{{num(math.MaxInt64)}, {sym("")}, {{Kind: 3}}, slices.Repeat(api.Tuple{sym("a")}, 9), {{Kind: math.MaxInt}}} {
		if k := r.Find(x); k != len(pages)-1 {
			t.Errorf("Find(%v): %d, not %d", x, k, len(pages)-1)
		}
	}
}

// TestFindDrawn: Find is just as the document defines it, and an entry is in the page that it tells.
func TestFindDrawn(t *testing.T) { // P7.3, P7.6
	rnd := rand.New(rand.NewSource(5))
	for range 100 {
		l := drawn(rnd, 150)
		r := opened(t, laid(t, filed(paged(l)...)))
		pages := paged(l)
		for _, c := range l {
			before := slices.Clone(c.T)
			p, e := r.Page(r.Find(c.T))
			at := slices.IndexFunc(p, func(x api.Counted) bool { return sameEntry(x, c) })
			if e != api.OK || at < 0 {
				t.Fatalf("entry %v is not in page %d", c, r.Find(c.T))
			}
			if !slices.Equal(before, c.T) {
				t.Fatalf("Find changes %v to %v", before, c.T)
			}
		}
		for range 200 {
			x := api.Tuple{}
			for range rnd.Intn(4) {
				x = append(x, some(rnd))
			}
			if len(l) > 0 && rnd.Intn(2) == 0 {
				x = append(slices.Clone(l[rnd.Intn(len(l))].T), x...)
			}
			if k := r.Find(x); k != found(pages, x) {
				t.Fatalf("Find(%v): %d, not %d", x, k, found(pages, x))
			}
		}
	}
}
