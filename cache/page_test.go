package cache_test

import (
	"math"
	"math/rand"
	"slices"
	"strconv"
	"strings"
	"testing"

	"pedigree/api"
	"pedigree/cache"
	"pedigree/disk"
	"pedigree/run"
)

// newDisk is a disk with much room.
func newDisk(t *testing.T) *disk.Disk {
	t.Helper()
	d, e := disk.New(api.MaxRoom)
	if e != api.OK {
		t.Fatalf("disk.New: %d", e)
	}
	return d
}

// filled lays a run of so many pages on a disk, each of two entries, and opens it.
func filled(t *testing.T, d *disk.Disk, name string, pages int) *run.Run {
	t.Helper()
	var l []api.Counted
	for i := range 2 * pages {
		l = append(l, api.Counted{T: api.Tuple{num(int64(i)), sym(name + strings.Repeat("m", 100-len(name)))}, N: int64(i - 1000)})
	}
	return laid(t, d, name, l...)
}

// laid lays a run on a disk, and opens it.
func laid(t *testing.T, d *disk.Disk, name string, l ...api.Counted) *run.Run {
	t.Helper()
	if e := run.Write(d, name, l...); e != api.OK {
		t.Fatalf("run.Write: %d", e)
	}
	r, e := run.Open(d, name)
	if e != api.OK {
		t.Fatalf("run.Open: %d", e)
	}
	return r
}

// pageOf is what a run itself answers.
func pageOf(t *testing.T, r *run.Run, i int) []api.Counted {
	t.Helper()
	l, e := r.Page(i)
	if e != api.OK || len(l) == 0 {
		t.Fatalf("run.Page(%d): %v, %d", i, l, e)
	}
	return l
}

// gives tells if Page answers another page.
func gives(t *testing.T, what string, c *cache.Cache, r *run.Run, i int, want []api.Counted) {
	t.Helper()
	if l, e := c.Page(r, i); e != api.OK || !same(l, want) {
		t.Errorf("%s: Page(%d): %v, %d, want %v", what, i, l, e, want)
	}
}

// fails tells if Page answers another error, or anything beside it.
func fails(t *testing.T, what string, c *cache.Cache, r *run.Run, i int, want api.Errno) {
	t.Helper()
	if l, e := c.Page(r, i); len(l) != 0 || e != want {
		t.Errorf("%s: Page(%d): %v, %d, want %d", what, i, l, e, want)
	}
}

// TestPage: first not found, then found.
func TestPage(t *testing.T) { // P8.3, P8.1
	r := filled(t, newDisk(t), "r", 3)
	c := made(t, 2)
	gives(t, "the first", c, r, 0, pageOf(t, r, 0))
	holds(t, "the first", c, api.CacheStats{Misses: 1}, key("r", 0))
	gives(t, "the first again", c, r, 0, pageOf(t, r, 0))
	holds(t, "the first again", c, api.CacheStats{Hits: 1, Misses: 1}, key("r", 0))
	gives(t, "the second", c, r, 1, pageOf(t, r, 1))
	holds(t, "the second", c, api.CacheStats{Hits: 1, Misses: 2}, key("r", 1), key("r", 0))
	gives(t, "the first once more", c, r, 0, pageOf(t, r, 0))
	holds(t, "the first once more", c, api.CacheStats{Hits: 2, Misses: 2}, key("r", 0), key("r", 1))
	gives(t, "the third", c, r, 2, pageOf(t, r, 2))
	holds(t, "the third", c, api.CacheStats{Hits: 2, Misses: 3, Gone: 1}, key("r", 2), key("r", 0))
	finds(t, "a page of a run", c, key("r", 0), pageOf(t, r, 0))
	misses(t, "the page that went", c, key("r", 1))
	gives(t, "the page that went", c, r, 1, pageOf(t, r, 1))
	holds(t, "at the end", c, api.CacheStats{Hits: 3, Misses: 5, Gone: 2}, key("r", 1), key("r", 0))
}

// TestPageFiles: the same number in two files.
func TestPageFiles(t *testing.T) { // P8.3, P8.2
	d := newDisk(t)
	a, b := filled(t, d, "a", 2), filled(t, d, "b", 2)
	c := made(t, 4)
	for range 2 {
		for i := range 2 {
			gives(t, "a", c, a, i, pageOf(t, a, i))
			gives(t, "b", c, b, i, pageOf(t, b, i))
		}
	}
	holds(t, "two files", c, api.CacheStats{Hits: 4, Misses: 4}, key("b", 1), key("a", 1), key("b", 0), key("a", 0))
	drops(t, c, "a", 2)
	gives(t, "a, dropped", c, a, 1, pageOf(t, a, 1))
	holds(t, "a, dropped", c, api.CacheStats{Hits: 4, Misses: 5}, key("a", 1), key("b", 1), key("b", 0))
}

// TestPageKept: a page that is kept is not read, whatever becomes of the file, and whoever put it there.
func TestPageKept(t *testing.T) { // P8.3
	d := newDisk(t)
	r := filled(t, d, "r", 3)
	c := made(t, 3)
	want := pageOf(t, r, 0)
	gives(t, "before", c, r, 0, want)
	if e := d.Rot("r", 3, 1); e != api.OK {
		t.Fatalf("Rot: %d", e)
	}
	gives(t, "spoilt", c, r, 0, want)
	if e := d.Delete("r"); e != api.OK {
		t.Fatalf("Delete: %d", e)
	}
	gives(t, "deleted", c, r, 0, want)
	fails(t, "deleted, not kept", c, r, 1, api.ErrNone)
	c.Put(key("r", 1), page(5))
	gives(t, "put by hand", c, r, 1, page(5))
	c.Put(key("r", 3), page(6))
	gives(t, "put by hand, out of range", c, r, 3, page(6))
	c.Put(key("r", 2), nil)
	gives(t, "put by hand, without entries", c, r, 2, nil)
	holds(t, "kept", c, api.CacheStats{Hits: 5, Misses: 2, Gone: 1}, key("r", 2), key("r", 3), key("r", 1))
	drops(t, c, "r", 3)
	fails(t, "dropped", c, r, 0, api.ErrNone)
}

// TestPageFails: nothing is kept of what fails, and nothing goes for it.
func TestPageFails(t *testing.T) { // P8.3
	d := newDisk(t)
	r := filled(t, d, "r", 3)
	c := made(t, 1)
	gives(t, "the last", c, r, 2, pageOf(t, r, 2))
	tried := 1
	for _, i := range []int{-1, 3, 4, math.MaxInt, math.MinInt} {
		fails(t, "out of range", c, r, i, api.ErrRange)
		tried++
	}
	fails(t, "a nil run", c, nil, 0, api.ErrNil)
	fails(t, "a nil run, out of range", c, nil, -1, api.ErrNil)
	fails(t, "a struct", c, new(run.Run), 0, api.ErrNil)
	copied := *r
	fails(t, "a copy", c, &copied, 0, api.ErrNil)
	tried += 4
	if e := d.Rot("r", 3, 1); e != api.OK {
		t.Fatalf("Rot: %d", e)
	}
	fails(t, "spoilt", c, r, 0, api.ErrRot)
	fails(t, "spoilt, again", c, r, 0, api.ErrRot)
	tried += 2
	holds(t, "all that failed", c, api.CacheStats{Misses: tried}, key("r", 2))
	if e := d.Rot("r", 3, 1); e != api.OK {
		t.Fatalf("Rot: %d", e)
	}
	gives(t, "mended", c, r, 0, pageOf(t, r, 0))
	holds(t, "mended", c, api.CacheStats{Misses: tried + 1, Gone: 1}, key("r", 0))
}

// TestPageNone: a run without pages.
func TestPageNone(t *testing.T) { // P8.3
	r := laid(t, newDisk(t), "r")
	c := made(t, 2)
	fails(t, "a run without pages", c, r, 0, api.ErrRange)
	holds(t, "a run without pages", c, api.CacheStats{Misses: 1})
}

// TestPageNoRoom: where nothing is kept, each page is the file's.
func TestPageNoRoom(t *testing.T) { // P8.3, P8.2
	d := newDisk(t)
	r := filled(t, d, "r", 2)
	c := made(t, 0)
	for range 3 {
		gives(t, "no room", c, r, 1, pageOf(t, r, 1))
	}
	holds(t, "no room", c, api.CacheStats{Misses: 3})
	if e := d.Delete("r"); e != api.OK {
		t.Fatalf("Delete: %d", e)
	}
	fails(t, "no room, and no file", c, r, 1, api.ErrNone)
}

// TestPageNotMade: the page of a cache that is none is the run's.
func TestPageNotMade(t *testing.T) { // P8.3, with the rule on objects
	d := newDisk(t)
	r := filled(t, d, "r", 2)
	copied := *made(t, 2)
	for what, c := range map[string]*cache.Cache{"nil": nil, "a struct": new(cache.Cache), "a copy": &copied} {
		gives(t, what, c, r, 1, pageOf(t, r, 1))
		gives(t, what+" again", c, r, 1, pageOf(t, r, 1))
		fails(t, what, c, r, 2, api.ErrRange)
		fails(t, what, c, r, -1, api.ErrRange)
		fails(t, what, c, nil, 0, api.ErrNil)
		fails(t, what, c, new(run.Run), 0, api.ErrNil)
		blank(t, what, c)
	}
}

func TestPageCopies(t *testing.T) { // P8.3, with the rule on memory
	r := filled(t, newDisk(t), "r", 1)
	c := made(t, 1)
	want := pageOf(t, r, 0)
	for _, what := range []string{"read", "kept", "kept, again"} {
		l, e := c.Page(r, 0)
		if e != api.OK || !same(l, want) {
			t.Fatalf("%s: %v, %d", what, l, e)
		}
		spoil(l)
	}
	l, _ := c.Get(key("r", 0))
	spoil(l)
	gives(t, "behind Get", c, r, 0, want)
}

// TestTransparent: drawn requests and Drops, and files whose names are used again behind a Drop.
func TestTransparent(t *testing.T) { // P8.4, P8.5
	r := rand.New(rand.NewSource(84))
	for range 20 {
		d := newDisk(t)
		var names []string
		var runs []*run.Run
		for i := range 3 {
			names = append(names, "r"+strconv.Itoa(i))
			runs = append(runs, filled(t, d, names[i], 1+r.Intn(5)))
		}
		c := made(t, r.Intn(10))
		for range 300 {
			i := r.Intn(len(runs))
			switch r.Intn(20) {
			case 0:
				c.Drop(names[i])
			case 1:
				c.Drop(names[i])
				if e := d.Delete(names[i]); e != api.OK {
					t.Fatalf("Delete: %d", e)
				}
				runs[i] = laid(t, d, names[i], page(r.Int63()%1000, 1000+r.Int63()%1000)...)
			default:
				n := r.Intn(6) - 1
				want, wantE := runs[i].Page(n)
				l, e := c.Page(runs[i], n)
				if e != wantE || !same(l, want) {
					t.Fatalf("Page(%d): %v, %d, want %v, %d", n, l, e, want, wantE)
				}
			}
			ks := c.Keys()
			for j, k := range ks {
				if slices.Contains(ks[:j], k) {
					t.Fatalf("twice: %v", ks)
				}
			}
			if len(ks) > c.Room() {
				t.Fatalf("more than room: %v", ks)
			}
		}
	}
}
