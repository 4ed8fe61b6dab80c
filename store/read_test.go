package store_test

import (
	"math"
	"slices"
	"strconv"
	"testing"

	"pedigree/api"
	"pedigree/cache"
	"pedigree/disk"
	"pedigree/run"
	"pedigree/store"
)

// TestGet is the document's example.
func TestGet(t *testing.T) { // P10.3, P10.4
	s := opened(t, newDisk(t), nil)
	ok(t, s.Add(ints(5), 1))
	gets(t, "added", s, ints(5), 1)
	ok(t, s.Flush("a"))
	gets(t, "flushed", s, ints(5), 1)
	ok(t, s.Add(ints(5), -1))
	gets(t, "taken away", s, ints(5), 0)
	ok(t, s.Flush("b"))
	gets(t, "flushed again", s, ints(5), 0)
	runs(t, "flushed again", s, "a", "b")
	contains(t, "flushed again", s)
}

// TestWhere: tuples that stand in runs alone, in the rest alone, in both, and nowhere.
func TestWhere(t *testing.T) { // P10.3
	for what, c := range map[string]*cache.Cache{"no cache": nil, "a struct": new(cache.Cache), "no room": newCache(t, 0), "a page": newCache(t, 1), "much room": newCache(t, 100)} {
		s := laid(t, newDisk(t), c,
			rows(row(1, 1), row(2, 2), row(4, 4), row(6, 6), row(8, -8)),
			rows(row(2, 20), row(4, -4), row(7, 70)),
			rows(row(1, -1), row(2, 200), row(6, -7), row(9, 900)))
		adds(t, s, row(0, 5), row(3, 3), row(4, 40), row(6, 1), row(7, -3), row(9, -900), row(10, 10))
		want := rows(row(0, 5), row(2, 222), row(3, 3), row(4, 40), row(7, 67), row(8, -8), row(10, 10))
		for range 2 {
			contains(t, what, s, want...)
			for _, x := range []api.Tuple{nil, {}, ints(-1), ints(1), ints(5), ints(6), ints(9), ints(11), ints(2, 2), {sym("2")}, ints(1, 2, 3, 4, 5, 6, 7, 8, 9), {{}}, {{Kind: api.VInt, N: 2, S: "x"}}} {
				gets(t, what, s, x, 0)
			}
		}
	}
}

// TestOverflow: sums of 64 bits, which wrap round.
func TestOverflow(t *testing.T) { // P10.3, P10.5
	const most = api.MaxCount
	for i, c := range []struct {
		counts []int64 // the last one is the rest's
		want   int64
	}{
		{[]int64{most, most}, math.MinInt64},
		{[]int64{most, most, most}, -most},
		{[]int64{most, most, most, most}, 0},
		{[]int64{most, most, most, most, most}, most},
		{[]int64{-most, -most}, math.MinInt64},
		{[]int64{-most, -most, -1}, math.MaxInt64},
		{[]int64{-most, -most, -most, -most}, 0},
		{[]int64{math.MaxInt64, 1}, math.MinInt64},
		{[]int64{math.MinInt64, -1}, math.MaxInt64},
		{[]int64{math.MinInt64, math.MinInt64, 0}, 0},
		{[]int64{math.MaxInt64, math.MaxInt64, 2}, 0},
		{[]int64{math.MaxInt64, math.MinInt64, 2}, 1},
	} {
		what := "case " + strconv.Itoa(i)
		last := len(c.counts) - 1
		var l [][]api.Counted
		for _, n := range c.counts[:last] {
			l = append(l, rows(row(4, 1), row(5, n)))
		}
		s := laid(t, newDisk(t), nil, l...)
		adds(t, s, row(5, c.counts[last]))
		want := rows(row(4, int64(last)), row(5, c.want))
		if c.want == 0 {
			want = want[:1]
		}
		contains(t, what, s, want...)
		gets(t, what, s, ints(5), c.want)
		ok(t, s.Flush("x"))
		gets(t, what+", flushed", s, ints(5), c.want)
		ok(t, s.Compact(len(s.Runs()), "y"))
		contains(t, what+", compacted", s, want...)
		gets(t, what+", compacted", s, ints(5), c.want)
	}
}

func TestScan(t *testing.T) { // P10.3
	all := rows(row(1, 1), of(ints(1, 5), 2), of(ints(1, 7), 3), row(2, 4), of(ints(2, 5), 5), of(ints(2, 5, 1), 6), of(ints(3, 0), 7), row(4, 8), of(api.Tuple{sym("a")}, 9))
	var even, odd []api.Counted
	for i, c := range all {
		if i%2 == 0 {
			even = append(even, c)
		} else {
			odd = append(odd, c)
		}
	}
	inRuns := laid(t, newDisk(t), nil, even, odd)
	inRest := opened(t, newDisk(t), nil)
	adds(t, inRest, all...)
	inBoth := laid(t, newDisk(t), newCache(t, 1), odd)
	adds(t, inBoth, even...)
	for i, c := range []struct {
		low, high api.Tuple
		want      []api.Counted
	}{
		{nil, nil, all},
		{api.Tuple{}, api.Tuple{}, all},
		{ints(1), ints(4), all[:8]},
		{ints(2), nil, all[3:]},
		{nil, ints(2), all[:6]},
		{ints(2), ints(2), all[3:6]},
		{ints(2, 5), ints(2, 5), all[4:6]},
		{ints(2, 5), nil, all[4:]},
		{nil, ints(2, 5), all[:6]},
		{ints(2, 5, 1), ints(2, 5), all[5:6]},
		{ints(2, 5, 2), nil, all[6:]},
		{ints(1, 6), ints(2, 0), rows(all[2], all[3])},
		{nil, ints(1, 6), all[:2]},
		{ints(5), nil, all[8:]},
		{ints(-9), ints(0), nil},
		{ints(3), ints(2), nil},
		{ints(4), ints(1), nil},
		{ints(2, 6), ints(2, 5), nil},
		{api.Tuple{sym("b")}, nil, nil},
		{api.Tuple{sym("")}, api.Tuple{sym("b")}, all[8:]},
		{nil, ints(math.MinInt64), nil},
		{api.Tuple{{}}, api.Tuple{{Kind: 9}}, all}, // bounds need not be valid
		{ints(1, 5, 0, 0, 0, 0, 0, 0, 0), ints(1, 7, 0, 0, 0, 0, 0, 0, 0), all[2:3]},
	} {
		what := "case " + strconv.Itoa(i)
		scans(t, what+" in runs", inRuns, c.low, c.high, c.want...)
		scans(t, what+" in the rest", inRest, c.low, c.high, c.want...)
		scans(t, what+" in both", inBoth, c.low, c.high, c.want...)
	}
}

// paged is a store of three runs, whose pages have two entries. Run a: 0 2, 4 6, 8; run b: 3 5, 7 9; run c: 1 4.
func paged(t *testing.T, d *disk.Disk, c *cache.Cache) *store.Store {
	t.Helper()
	s := laid(t, d, c,
		rows(of(wide(0), 1), of(wide(2), 1), of(wide(4), 1), of(wide(6), 1), of(wide(8), 1)),
		rows(of(wide(3), 10), of(wide(5), 10), of(wide(7), 10), of(wide(9), 10)),
		rows(of(wide(1), 100), of(wide(4), 100)))
	for name, pages := range map[string]int{"a": 3, "b": 2, "c": 1} {
		r, e := run.Open(d, name)
		ok(t, e)
		if n, _ := r.Len(); n != pages {
			t.Fatalf("run %s has %d pages", name, n)
		}
	}
	return s
}

// rot spoils a page of a run.
func rot(t *testing.T, d *disk.Disk, name string, page int) {
	t.Helper()
	r, e := run.Open(d, name)
	ok(t, e)
	for at := 0; ; at++ {
		ok(t, d.Rot(name, at, 1))
		if _, e := r.Page(page); e == api.ErrRot {
			return
		}
		ok(t, d.Rot(name, at, 1))
	}
}

// asked tells if other pages were asked for, or in another order: those of the cache, which has room for all of them.
func asked(t *testing.T, what string, c *cache.Cache, misses int, want ...string) {
	t.Helper()
	var l []string
	for _, k := range c.Keys() {
		l = append(l, k.Run+strconv.Itoa(k.Page))
	}
	slices.Reverse(l)
	if !slices.Equal(l, want) || c.Stats().Misses != misses {
		t.Errorf("%s: asked for %v, missed %d, want %v and %d", what, l, c.Stats().Misses, want, misses)
	}
}

func TestGetAsksForPages(t *testing.T) { // P10.3
	for _, c := range []struct {
		x     api.Tuple
		n     int64
		pages []string
	}{
		{ints(-1), 0, nil},
		{nil, 0, nil},
		{wide(0), 1, []string{"a0"}},
		{ints(0), 0, nil}, // less than wide(0)
		{wide(1), 100, []string{"a0", "c0"}},
		{wide(2), 1, []string{"a0", "c0"}},
		{wide(3), 10, []string{"a0", "b0", "c0"}},
		{wide(4), 101, []string{"a1", "b0", "c0"}},
		{ints(5), 0, []string{"a1", "b0", "c0"}},
		{wide(7), 10, []string{"a1", "b1", "c0"}},
		{wide(8), 1, []string{"a2", "b1", "c0"}},
		{wide(99), 0, []string{"a2", "b1", "c0"}},
		{ints(99, 1, 2, 3, 4, 5, 6, 7, 8, 9), 0, []string{"a2", "b1", "c0"}},
	} {
		room := newCache(t, 100)
		s := paged(t, newDisk(t), room)
		adds(t, s, row(-5, 1))
		gets(t, "first", s, c.x, c.n)
		asked(t, "first", room, len(c.pages), c.pages...)
		gets(t, "again", s, c.x, c.n)
		asked(t, "again", room, len(c.pages), c.pages...)
		if hits := room.Stats().Hits; hits != len(c.pages) {
			t.Errorf("Get(%v) again: %d pages found, want %d", c.x, hits, len(c.pages))
		}
	}
}

// TestScanAsksForPages: all of them, one run after the other, whatever the bounds are.
func TestScanAsksForPages(t *testing.T) { // P10.3
	all := []string{"a0", "a1", "a2", "b0", "b1", "c0"}
	for _, bounds := range [][2]api.Tuple{{nil, nil}, {wide(4), wide(4)}, {ints(9), ints(1)}, {ints(100), nil}} {
		c := newCache(t, 100)
		s := paged(t, newDisk(t), c)
		s.Scan(bounds[0], bounds[1])
		asked(t, "first", c, 6, all...)
		s.Scan(bounds[0], bounds[1])
		asked(t, "again", c, 6, all...)
		if hits := c.Stats().Hits; hits != 6 {
			t.Errorf("again: %d pages found", hits)
		}
	}
	small := newCache(t, 2)
	s := paged(t, newDisk(t), small)
	for n := 1; n < 4; n++ {
		s.Scan(nil, nil)
		asked(t, "little room", small, 6*n, "b1", "c0")
	}
}

// TestCompactAsksForPages: those of the last runs alone.
func TestCompactAsksForPages(t *testing.T) { // P10.5
	for k, want := range [][]string{1: {"c0"}, 2: {"b0", "b1", "c0"}, 3: {"a0", "a1", "a2", "b0", "b1", "c0"}} {
		c := newCache(t, 100)
		s := paged(t, newDisk(t), c)
		if k == 0 {
			is(t, "none", s.Compact(k, "x"), api.ErrRange)
		} else {
			ok(t, s.Compact(k, "x"))
		}
		asked(t, "of "+strconv.Itoa(k), c, len(want), want...)
	}
}

// TestPagesComeFromTheCache: what it keeps is not read.
func TestPagesComeFromTheCache(t *testing.T) { // P10.3, P10.5
	d, c := newDisk(t), newCache(t, 10)
	s := laid(t, d, c, rows(row(1, 1), row(2, 2)), rows(row(2, 1), row(3, 3)))
	want := rows(row(1, 1), row(2, 3), row(3, 3))
	contains(t, "read", s, want...)
	ok(t, d.Rot("a", 3, 1), d.Delete("b"))
	contains(t, "kept", s, want...)
	gets(t, "kept", s, ints(2), 3)
	ok(t, s.Compact(2, "x"))
	contains(t, "compacted", s, want...)
	written(t, "compacted", d, "x", want...)
}

// TestFirstError: that of the first page that cannot be read, and no page is asked for behind it.
func TestFirstError(t *testing.T) { // P10.3, P10.5, P10.8
	get := func(n int64) func(*store.Store) api.Errno {
		return func(s *store.Store) api.Errno {
			n, e := s.Get(wide(n))
			if e != api.OK && n != 0 {
				return -1
			}
			return e
		}
	}
	scan := func(s *store.Store) api.Errno {
		l, e := s.Scan(wide(4), wide(4))
		if e != api.OK && len(l) != 0 {
			return -1
		}
		return e
	}
	compact := func(k int) func(*store.Store) api.Errno {
		return func(s *store.Store) api.Errno { return s.Compact(k, "x") }
	}
	for i, c := range []struct {
		spoilt string // a run and a page of it
		gone   string // a run
		do     func(*store.Store) api.Errno
		want   api.Errno
		misses int
		kept   []string
	}{
		{"a0", "", get(0), api.ErrRot, 1, nil},
		{"a0", "", get(3), api.ErrRot, 1, nil},
		{"b0", "", get(3), api.ErrRot, 2, []string{"a0"}},
		{"b0", "", get(4), api.ErrRot, 2, []string{"a1"}},
		{"c0", "", get(4), api.ErrRot, 3, []string{"a1", "b0"}},
		{"", "a", get(4), api.ErrNone, 1, nil},
		{"a1", "b", get(4), api.ErrRot, 1, nil},
		{"b0", "a", get(4), api.ErrNone, 1, nil},
		{"b0", "c", get(4), api.ErrRot, 2, []string{"a1"}},
		{"c0", "b", get(4), api.ErrNone, 2, []string{"a1"}},
		{"a0", "", get(4), api.OK, 3, []string{"a1", "b0", "c0"}},
		{"b1", "", get(4), api.OK, 3, []string{"a1", "b0", "c0"}},
		{"a0", "b", get(1), api.ErrRot, 1, nil},
		{"c0", "b", get(2), api.ErrRot, 2, []string{"a0"}}, // less than all of run b, which is not asked
		{"a2", "b", get(2), api.OK, 2, []string{"a0", "c0"}},
		{"a0", "b", get(-1), api.OK, 0, nil},
		{"a0", "", scan, api.ErrRot, 1, nil},
		{"a2", "", scan, api.ErrRot, 3, []string{"a0", "a1"}},
		{"b1", "", scan, api.ErrRot, 5, []string{"a0", "a1", "a2", "b0"}},
		{"c0", "", scan, api.ErrRot, 6, []string{"a0", "a1", "a2", "b0", "b1"}},
		{"a2", "b", scan, api.ErrRot, 3, []string{"a0", "a1"}},
		{"b0", "a", scan, api.ErrNone, 1, nil},
		{"b1", "c", scan, api.ErrRot, 5, []string{"a0", "a1", "a2", "b0"}},
		{"c0", "b", scan, api.ErrNone, 4, []string{"a0", "a1", "a2"}},
		{"a0", "", compact(3), api.ErrRot, 1, nil},
		{"b1", "", compact(3), api.ErrRot, 5, []string{"a0", "a1", "a2", "b0"}},
		{"b0", "a", compact(3), api.ErrNone, 1, nil},
		{"b0", "c", compact(3), api.ErrRot, 4, []string{"a0", "a1", "a2"}},
		{"b1", "", compact(2), api.ErrRot, 2, []string{"b0"}},
		{"c0", "b", compact(2), api.ErrNone, 1, nil},
		{"a0", "", compact(2), api.OK, 3, []string{"b0", "b1", "c0"}},
		{"c0", "b", compact(1), api.ErrRot, 1, nil},
		{"b0", "a", compact(1), api.OK, 1, []string{"c0"}},
	} {
		what := "case " + strconv.Itoa(i)
		for _, room := range []int{0, 100} {
			d, pages := newDisk(t), newCache(t, room)
			s := paged(t, d, pages)
			adds(t, s, of(wide(4), 1000), of(wide(7), -10))
			if c.spoilt != "" {
				rot(t, d, c.spoilt[:1], int(c.spoilt[1]-'0'))
			}
			if c.gone != "" {
				ok(t, d.Delete(c.gone))
			}
			is(t, what, c.do(s), c.want)
			kept := c.kept
			if room == 0 {
				kept = nil
			}
			asked(t, what, pages, c.misses, kept...)
			rest(t, what, s, of(wide(4), 1000), of(wide(7), -10))
			if c.want != api.OK {
				runs(t, what, s, "a", "b", "c")
			}
		}
	}
}

// TestMended: a store goes on where pages can be read again.
func TestMended(t *testing.T) { // P10.3, P10.8
	d := newDisk(t)
	s := paged(t, d, newCache(t, 2))
	before := seen(s, wide(3), wide(4))
	ok(t, d.Rename("b", "away"))
	scanFails(t, "away", s, api.ErrNone)
	getFails(t, "away", s, wide(3), api.ErrNone)
	unchanged(t, "away", s, func() {
		is(t, "away", s.Compact(2, "x"), api.ErrNone)
		is(t, "away", s.Compact(3, ""), api.ErrNone) // ahead of the name, which is not valid
	})
	ok(t, d.Rename("away", "b"))
	if after := seen(s, wide(3), wide(4)); after != before {
		t.Errorf("mended: is\n%s\nwas\n%s", after, before)
	}
	ok(t, s.Compact(3, "x"))
	contains(t, "compacted", s, of(wide(0), 1), of(wide(1), 100), of(wide(2), 1), of(wide(3), 10), of(wide(4), 101), of(wide(5), 10), of(wide(6), 1), of(wide(7), 10), of(wide(8), 1), of(wide(9), 10))
}
