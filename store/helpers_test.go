package store_test

import (
	"slices"
	"strconv"
	"strings"
	"testing"

	"pedigree/api"
	"pedigree/cache"
	"pedigree/disk"
	"pedigree/run"
	"pedigree/store"
	"pedigree/tuple"
)

func num(n int64) api.Value { return api.Value{Kind: api.VInt, N: n} }

func sym(s string) api.Value { return api.Value{Kind: api.VSym, S: s} }

// ints is a tuple of ints.
func ints(ns ...int64) api.Tuple {
	var t api.Tuple
	for _, n := range ns {
		t = append(t, num(n))
	}
	return t
}

// wide is a tuple with so long an encoding that two of them fill a page.
func wide(n int64) api.Tuple {
	return api.Tuple{num(n), sym(strings.Repeat("w", 110))}
}

// row is the count of a tuple of one int.
func row(t, n int64) api.Counted { return api.Counted{T: ints(t), N: n} }

// of is the count of a tuple.
func of(t api.Tuple, n int64) api.Counted { return api.Counted{T: t, N: n} }

func rows(l ...api.Counted) []api.Counted { return l }

func same(a, b []api.Counted) bool {
	return slices.EqualFunc(a, b, func(a, b api.Counted) bool { return a.N == b.N && slices.Equal(a.T, b.T) })
}

// ok stops the test if one of the calls did not succeed.
func ok(t *testing.T, es ...api.Errno) {
	t.Helper()
	for i, e := range es {
		if e != api.OK {
			t.Fatalf("call %d: %d", i, e)
		}
	}
}

// is tells if a call answered another error.
func is(t *testing.T, what string, e, want api.Errno) {
	t.Helper()
	if e != want {
		t.Errorf("%s: %d, want %d", what, e, want)
	}
}

func newDisk(t *testing.T) *disk.Disk {
	t.Helper()
	d, e := disk.New(api.MaxRoom)
	ok(t, e)
	return d
}

func newCache(t *testing.T, room int) *cache.Cache {
	t.Helper()
	c, e := cache.New(room)
	ok(t, e)
	return c
}

// opened is a store that Open makes.
func opened(t *testing.T, d *disk.Disk, c *cache.Cache, runs ...string) *store.Store {
	t.Helper()
	s, e := store.Open(d, c, runs...)
	if s == nil || e != api.OK {
		t.Fatalf("Open(%q): %v, %d", runs, s, e)
	}
	return s
}

// laid lays runs on a disk, and opens a store of them: a, b, c and so on.
func laid(t *testing.T, d *disk.Disk, c *cache.Cache, runs ...[]api.Counted) *store.Store {
	t.Helper()
	var names []string
	for i, l := range runs {
		names = append(names, string(rune('a'+i)))
		ok(t, run.Write(d, names[i], l...))
	}
	return opened(t, d, c, names...)
}

// adds adds counts to a store.
func adds(t *testing.T, s *store.Store, l ...api.Counted) {
	t.Helper()
	for _, c := range l {
		ok(t, s.Add(c.T, c.N))
	}
}

// runs tells if the runs are others.
func runs(t *testing.T, what string, s *store.Store, want ...string) {
	t.Helper()
	if l := s.Runs(); !slices.Equal(l, want) {
		t.Errorf("%s: runs %q, want %q", what, l, want)
	}
}

// rest tells if the rest is another one.
func rest(t *testing.T, what string, s *store.Store, want ...api.Counted) {
	t.Helper()
	if l := s.Rest(); !same(l, want) {
		t.Errorf("%s: rest %v, want %v", what, l, want)
	}
}

// gets tells if Get answers another count.
func gets(t *testing.T, what string, s *store.Store, x api.Tuple, want int64) {
	t.Helper()
	if n, e := s.Get(x); n != want || e != api.OK {
		t.Errorf("%s: Get(%v): %d, %d, want %d", what, x, n, e, want)
	}
}

// scans tells if Scan answers anything else.
func scans(t *testing.T, what string, s *store.Store, low, high api.Tuple, want ...api.Counted) {
	t.Helper()
	if l, e := s.Scan(low, high); !same(l, want) || e != api.OK {
		t.Errorf("%s: Scan(%v, %v): %v, %d, want %v", what, low, high, l, e, want)
	}
}

// contains tells if the content is another one, to Scan or to Get.
func contains(t *testing.T, what string, s *store.Store, want ...api.Counted) {
	t.Helper()
	scans(t, what, s, nil, nil, want...)
	for _, c := range want {
		gets(t, what, s, c.T, c.N)
	}
}

// getFails tells if Get answers another error, or a count beside it.
func getFails(t *testing.T, what string, s *store.Store, x api.Tuple, want api.Errno) {
	t.Helper()
	if n, e := s.Get(x); n != 0 || e != want {
		t.Errorf("%s: Get(%v): %d, %d, want %d", what, x, n, e, want)
	}
}

// scanFails tells if Scan answers another error, or tuples beside it.
func scanFails(t *testing.T, what string, s *store.Store, want api.Errno) {
	t.Helper()
	if l, e := s.Scan(nil, nil); len(l) != 0 || e != want {
		t.Errorf("%s: Scan: %v, %d, want %d", what, l, e, want)
	}
}

// openFails tells if Open answers another error, or a store beside it.
func openFails(t *testing.T, what string, d *disk.Disk, want api.Errno, runs ...string) {
	t.Helper()
	for _, c := range []*cache.Cache{nil, newCache(t, 2)} {
		if s, e := store.Open(d, c, runs...); s != nil || e != want {
			t.Errorf("%s: Open: %v, %d, want %d", what, s, e, want)
		}
	}
}

// written tells if a file has other entries.
func written(t *testing.T, what string, d *disk.Disk, name string, want ...api.Counted) {
	t.Helper()
	n, e := d.Size(name)
	ok(t, e)
	b, e := d.Read(name, 0, n)
	ok(t, e)
	if l, e := run.Parse(b); !same(l, want) || e != api.OK {
		t.Errorf("%s: file %s has %v, %d, want %v", what, name, l, e, want)
	}
}

// text is what a tuple is called in what is seen.
func text(x api.Tuple) string {
	s, _ := tuple.Text(x)
	return s
}

// seen is what a store answers to everything that is asked, errors among it.
func seen(s *store.Store, asked ...api.Tuple) string {
	var b strings.Builder
	list := func(l []api.Counted) {
		for _, c := range l {
			b.WriteString(" " + text(c.T) + "=" + strconv.FormatInt(c.N, 10))
		}
	}
	b.WriteString("runs " + strings.Join(s.Runs(), " ") + "\nrest")
	list(s.Rest())
	l, e := s.Scan(nil, nil)
	b.WriteString("\nscan " + strconv.Itoa(int(e)))
	list(l)
	for _, x := range asked {
		n, e := s.Get(x)
		b.WriteString("\n" + text(x) + " " + strconv.FormatInt(n, 10) + " " + strconv.Itoa(int(e)))
	}
	return b.String()
}

// unchanged does something, and tells if the store answers otherwise than before.
func unchanged(t *testing.T, what string, s *store.Store, do func()) {
	t.Helper()
	asked := []api.Tuple{ints(0), ints(1), ints(2), ints(3), ints(5), ints(7), ints(9), ints(1, 2), wide(0), wide(1), wide(3), wide(5), wide(9), nil}
	before := seen(s, asked...)
	do()
	if after := seen(s, asked...); after != before {
		t.Errorf("%s: is\n%s\nwas\n%s", what, after, before)
	}
}
