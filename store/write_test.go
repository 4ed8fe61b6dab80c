package store_test

import (
	"math"
	"slices"
	"strconv"
	"strings"
	"testing"

	"pedigree/api"
	"pedigree/cache"
	"pedigree/disk"
	"pedigree/run"
	"pedigree/store"
)

func TestFlush(t *testing.T) { // P10.4
	d := newDisk(t)
	s := opened(t, d, newCache(t, 2))
	first := rows(of(nil, 4), row(1, 1), of(ints(1, 1), -1), row(5, api.MaxCount), of(api.Tuple{sym("a")}, -api.MaxCount))
	for _, i := range []int{3, 0, 4, 2, 1} {
		adds(t, s, first[i])
	}
	is(t, "the first", s.Flush("one"), api.OK)
	runs(t, "the first", s, "one")
	rest(t, "the first", s)
	written(t, "the first", d, "one", first...)
	contains(t, "the first", s, first...)
	adds(t, s, row(1, -1), row(2, 2))
	is(t, "the second", s.Flush("a second"), api.OK)
	runs(t, "the second", s, "one", "a second")
	rest(t, "the second", s)
	written(t, "the first, again", d, "one", first...)
	written(t, "the second", d, "a second", row(1, -1), row(2, 2))
	contains(t, "the second", s, first[0], first[2], row(2, 2), first[3], first[4])
	contains(t, "opened anew", opened(t, d, nil, s.Runs()...), first[0], first[2], row(2, 2), first[3], first[4])
}

// TestFlushNothing: without a rest, nothing is wrong.
func TestFlushNothing(t *testing.T) { // P10.4
	d := newDisk(t)
	s := laid(t, d, nil, rows(row(1, 1)))
	ok(t, d.Fuse(0))
	full := opened(t, d, nil, slices.Repeat([]string{"a"}, api.MaxRuns)...)
	for _, name := range []string{"x", "a", "", strings.Repeat("n", api.MaxFName+1)} {
		for what, s := range map[string]*store.Store{"one run": s, "all runs": full} {
			unchanged(t, what, s, func() { is(t, what, s.Flush(name), api.OK) })
			adds(t, s, row(1, 3), row(1, -3), row(2, 0))
			unchanged(t, what+", behind Adds", s, func() { is(t, what, s.Flush(name), api.OK) })
		}
	}
	if l := d.Names(); !slices.Equal(l, []string{"a"}) {
		t.Errorf("files %q", l)
	}
}

// TestFlushMany: up to as many runs as there may be.
func TestFlushMany(t *testing.T) { // P10.4
	d := newDisk(t)
	s := opened(t, d, newCache(t, 10))
	for i := range int64(api.MaxRuns) {
		adds(t, s, row(i%7, 1))
		is(t, strconv.FormatInt(i, 10), s.Flush("r"+strconv.FormatInt(i, 10)), api.OK)
	}
	if n := len(s.Runs()); n != api.MaxRuns {
		t.Fatalf("%d runs", n)
	}
	adds(t, s, row(0, 5))
	for _, name := range []string{"x", "r0", "", strings.Repeat("n", api.MaxFName+1)} {
		unchanged(t, "one run more", s, func() { is(t, "one run more", s.Flush(name), api.ErrMany) })
	}
	if n := len(d.Names()); n != api.MaxRuns {
		t.Errorf("%d files", n)
	}
	ok(t, d.Fuse(0))
	is(t, "one run more, and the disk is down", s.Flush("x"), api.ErrMany)
	ok(t, d.Fuse(100), s.Compact(1, "y"))
	is(t, "as many as before", s.Flush("x"), api.ErrMany)
	ok(t, s.Compact(2, "z"))
	is(t, "one run less", s.Flush("x"), api.OK)
	is(t, "nothing", s.Flush("x"), api.OK)
	contains(t, "at last", s, row(0, 15), row(1, 9), row(2, 9), row(3, 9), row(4, 9), row(5, 9), row(6, 9))
}

// TestWriteFails: the errors of run.Write, to Flush and to Compact, and which files are there then.
func TestWriteFails(t *testing.T) { // P10.4, P10.5, P10.8
	for _, c := range []struct {
		what  string
		name  string
		spoil func(d *disk.Disk)
		want  api.Errno
		file  bool // whether there is a file behind it
	}{
		{"no name", "", nil, api.ErrName, false},
		{"a long name", strings.Repeat("n", api.MaxFName+1), nil, api.ErrName, false},
		{"the name of a run", "a", nil, api.ErrExists, true},
		{"the name of the last run", "b", nil, api.ErrExists, true},
		{"a name that stands", "file", func(d *disk.Disk) { d.Create("file") }, api.ErrExists, true},
		{"down", "x", func(d *disk.Disk) { d.Fuse(0) }, api.ErrDown, false},
		{"down, and no name", "", func(d *disk.Disk) { d.Fuse(0) }, api.ErrDown, false},
		{"down behind Create", "x", func(d *disk.Disk) { d.Fuse(1) }, api.ErrDown, true},
		{"down behind Write", "x", func(d *disk.Disk) { d.Fuse(2) }, api.ErrDown, true},
		{"full", "x", func(d *disk.Disk) { fill(d, 0) }, api.ErrFull, true},
		{"too little room", "x", func(d *disk.Disk) { fill(d, 3) }, api.ErrFull, true},
		{"too many files", "x", crowd, api.ErrMany, false},
	} {
		for call, do := range map[string]func(s *store.Store) api.Errno{
			"Flush":          func(s *store.Store) api.Errno { return s.Flush(c.name) },
			"Compact":        func(s *store.Store) api.Errno { return s.Compact(2, c.name) },
			"Compact of one": func(s *store.Store) api.Errno { return s.Compact(1, c.name) },
		} {
			for _, pages := range []*cache.Cache{nil, newCache(t, 10)} {
				what := c.what + ": " + call
				d, e := disk.New(1000)
				ok(t, e)
				s := laid(t, d, pages, rows(of(wide(0), 1), of(wide(1), 1)), rows(of(wide(1), -1), of(wide(3), 3)))
				adds(t, s, of(wide(1), 5), of(wide(9), 9))
				s.Scan(nil, nil)
				if c.spoil != nil {
					c.spoil(d)
				}
				unchanged(t, what, s, func() { is(t, what, do(s), c.want) })
				if _, e := d.Size(c.name); (e == api.OK) != c.file {
					t.Errorf("%s: Size of the file: %d", what, e)
				}
			}
		}
	}
}

// crowd makes as many files as there may be.
func crowd(d *disk.Disk) {
	for i := range api.MaxFiles {
		d.Create("f" + strconv.Itoa(i))
	}
}

// fill leaves room for so many sectors.
func fill(d *disk.Disk, left int) {
	used, room := d.Used()
	d.Create("filler")
	d.Write("filler", 0, make([]byte, (room-used-left)*api.Sector))
}

// TestWriteEnds: with each number of modifying calls, and once more when the disk is up again.
func TestWriteEnds(t *testing.T) { // P10.4, P10.5, P10.8
	want := rows(row(1, 5), row(2, 2), row(3, 3))
	for n := range 3 {
		d := newDisk(t)
		s := laid(t, d, newCache(t, 1), rows(row(1, 1), row(2, 2)), rows(row(1, 1)))
		adds(t, s, row(1, 3), row(3, 3))
		ok(t, d.Fuse(n))
		unchanged(t, "Flush", s, func() { is(t, "Flush", s.Flush("x"), api.ErrDown) })
		unchanged(t, "Flush again", s, func() { is(t, "Flush again", s.Flush("x"), api.ErrDown) })
		ok(t, d.Fuse(n))
		unchanged(t, "Compact", s, func() { is(t, "Compact", s.Compact(2, "y"), api.ErrDown) })
		ok(t, d.Fuse(3))
		is(t, "Flush at last", s.Flush("u"), api.OK)
		runs(t, "Flush at last", s, "a", "b", "u")
		contains(t, "Flush at last", s, want...)
		ok(t, d.Fuse(3))
		is(t, "Compact at last", s.Compact(3, "v"), api.OK)
		runs(t, "Compact at last", s, "v")
		contains(t, "Compact at last", s, want...)
		written(t, "Compact at last", d, "v", want...)
	}
}

// TestWritesNoMore: Flush and Compact make the three modifying calls of run.Write alone, and keep no page of what they wrote.
func TestWritesNoMore(t *testing.T) { // P10.4, P10.5
	d, c := newDisk(t), newCache(t, 10)
	s := laid(t, d, c, rows(row(1, 1)), rows(row(2, 2)))
	adds(t, s, row(3, 3))
	three := func(what string, do func() api.Errno) {
		s.Scan(nil, nil)
		pages := len(c.Keys())
		ok(t, d.Fuse(4))
		is(t, what, do(), api.OK)
		if d.Down() {
			t.Errorf("%s: more than three modifying calls", what)
		}
		ok(t, d.SyncDir())
		if !d.Down() {
			t.Errorf("%s: fewer than three modifying calls", what)
		}
		if n := len(c.Keys()); n != pages {
			t.Errorf("%s: %d pages are kept, want %d", what, n, pages)
		}
	}
	three("Flush", func() api.Errno { return s.Flush("x") })
	three("Compact", func() api.Errno { return s.Compact(2, "y") })
	runs(t, "at last", s, "a", "y")
}

// TestFlushLong: a run that is longer than a file may be.
func TestFlushLong(t *testing.T) { // P10.4, P10.8
	s := opened(t, newDisk(t), nil)
	long := strings.Repeat("l", api.MaxSym)
	for i := range int64(600) {
		adds(t, s, of(api.Tuple{num(i), sym(long), sym(long), sym(long), sym(long), sym(long), sym(long), sym(long)}, i+1))
	}
	before := seen(s)
	is(t, "long", s.Flush("x"), api.ErrLong)
	if seen(s) != before {
		t.Error("long: the store is another one")
	}
	is(t, "long, once more", s.Flush("x"), api.ErrExists)
}

// TestCompact is the document's example, and what is left of other sums.
func TestCompact(t *testing.T) { // P10.5
	d := newDisk(t)
	s := opened(t, d, nil)
	ok(t, s.Add(ints(5), 1), s.Flush("a"), s.Add(ints(5), -1), s.Flush("b"))
	runs(t, "ahead", s, "a", "b")
	is(t, "the example", s.Compact(2, "c"), api.OK)
	runs(t, "the example", s)
	contains(t, "the example", s)
	if l := d.Names(); !slices.Equal(l, []string{"a", "b"}) {
		t.Errorf("files %q", l)
	}
	is(t, "no run is left", s.Compact(1, "c"), api.ErrRange)
	ok(t, s.Add(ints(5), 3), s.Flush("c"))
	runs(t, "the name is free", s, "c")
	contains(t, "the name is free", s, row(5, 3))
}

// TestCompactLast: of one, of some and of all runs; those ahead of the last k stay, and so does the rest.
func TestCompactLast(t *testing.T) { // P10.5
	stack := [][]api.Counted{
		rows(row(1, 1), row(2, 2), row(9, 9)),
		rows(row(2, 10), row(3, 30)),
		nil,
		rows(row(2, -10), row(4, 40)),
		rows(row(3, 5), row(4, -40), row(5, 1)),
	}
	want := rows(row(1, 1), row(2, 2), row(3, 35), row(5, 4), row(9, 2))
	for k, sums := range [][]api.Counted{
		1: stack[4],
		2: rows(row(2, -10), row(3, 5), row(5, 1)),
		3: rows(row(2, -10), row(3, 5), row(5, 1)),
		4: rows(row(3, 35), row(5, 1)),
		5: rows(row(1, 1), row(2, 2), row(3, 35), row(5, 1), row(9, 9)),
	} {
		what := "the last " + strconv.Itoa(k)
		if k == 0 {
			continue
		}
		d := newDisk(t)
		s := laid(t, d, newCache(t, 3), stack...)
		adds(t, s, row(5, 3), row(9, -7))
		contains(t, what+", ahead", s, want...)
		is(t, what, s.Compact(k, "x"), api.OK)
		runs(t, what, s, append([]string{"a", "b", "c", "d", "e"}[:5-k], "x")...)
		rest(t, what, s, row(5, 3), row(9, -7))
		written(t, what, d, "x", sums...)
		contains(t, what, s, want...)
		for i, name := range []string{"a", "b", "c", "d", "e"} { // their files stay
			written(t, what, d, name, stack[i]...)
		}
		ok(t, s.Flush("y"))
		contains(t, what+", flushed", s, want...)
		contains(t, what+", opened anew", opened(t, d, nil, s.Runs()...), want...)
		ok(t, s.Compact(len(s.Runs()), "z"))
		runs(t, what+", and all", s, "z")
		written(t, what+", and all", d, "z", want...)
		contains(t, what+", and all", s, want...)
	}
}

// TestCompactToNothing: there is no file then, and whatever is wrong with its name or with the disk is not met.
func TestCompactToNothing(t *testing.T) { // P10.5
	for i, c := range []struct {
		stack [][]api.Counted
		k     int
		left  []string
		want  []api.Counted
	}{
		{[][]api.Counted{nil}, 1, nil, nil},
		{[][]api.Counted{nil, nil, nil}, 2, []string{"a"}, nil},
		{[][]api.Counted{rows(row(1, 1)), nil}, 1, []string{"a"}, rows(row(1, 1))},
		{[][]api.Counted{rows(row(1, 1)), rows(row(1, 2)), rows(row(1, -2))}, 2, []string{"a"}, rows(row(1, 1))},
		{[][]api.Counted{rows(row(1, 1), row(2, 2)), rows(row(2, -1), row(3, 5)), rows(row(1, -1), row(2, -1), row(3, -5))}, 3, nil, nil},
		{[][]api.Counted{rows(row(1, math.MinInt64)), rows(row(1, math.MinInt64))}, 2, nil, nil},
	} {
		what := "case " + strconv.Itoa(i)
		for _, name := range []string{"x", "a", "", strings.Repeat("n", api.MaxFName+1)} {
			d := newDisk(t)
			s := laid(t, d, newCache(t, 3), c.stack...)
			files := d.Names()
			ok(t, d.Fuse(0))
			is(t, what, s.Compact(c.k, name), api.OK)
			runs(t, what, s, c.left...)
			contains(t, what, s, c.want...)
			if l := d.Names(); !slices.Equal(l, files) {
				t.Errorf("%s: files %q, want %q", what, l, files)
			}
		}
	}
}

// TestCompactRange: how many runs there may be asked for.
func TestCompactRange(t *testing.T) { // P10.5, P10.8
	for n := range 4 {
		d := newDisk(t)
		s := laid(t, d, nil, slices.Repeat([][]api.Counted{rows(row(1, 1))}, n)...)
		adds(t, s, row(2, 2))
		if n > 0 {
			ok(t, d.Rot("a", 3, 1)) // it is not read
		}
		ok(t, d.Fuse(0))
		for _, k := range []int{0, -1, -2, n + 1, n + 2, api.MaxRuns, api.MaxRuns + 1, math.MaxInt, math.MinInt} {
			for _, name := range []string{"x", "a", ""} {
				what := strconv.Itoa(k) + " of " + strconv.Itoa(n)
				unchanged(t, what, s, func() { is(t, what, s.Compact(k, name), api.ErrRange) })
			}
		}
	}
	full := laid(t, newDisk(t), nil, slices.Repeat([][]api.Counted{rows(row(1, 1))}, api.MaxRuns)...)
	is(t, "all", full.Compact(api.MaxRuns, "all"), api.OK)
	contains(t, "all", full, row(1, api.MaxRuns))
}

// TestCompactNoRun: what a cache was handed under a run's name is what its pages are, and run.Write takes no row that is no run.
func TestCompactNoRun(t *testing.T) { // P10.5
	c := newCache(t, 10)
	s := laid(t, newDisk(t), c, rows(row(1, 1)))
	c.Put(api.PageKey{Run: "a"}, rows(row(1, 2)))
	gets(t, "another page", s, ints(1), 2)
	scans(t, "another page", s, nil, nil, row(1, 2))
	c.Put(api.PageKey{Run: "a"}, rows(row(2, 1), row(1, 1)))
	is(t, "a page that falls", s.Compact(1, "x"), api.ErrRun)
	c.Put(api.PageKey{Run: "a"}, rows(of(make(api.Tuple, 9), 1)))
	is(t, "a page of what is no tuple", s.Compact(1, "x"), api.ErrRun)
	runs(t, "behind them", s, "a")
	c.Drop("a")
	contains(t, "behind them", s, row(1, 1))
}

// TestStoresOfTheSameRuns: a store that compacts takes no run from another one.
func TestStoresOfTheSameRuns(t *testing.T) { // P10.5
	d, c := newDisk(t), newCache(t, 5)
	ok(t, run.Write(d, "a", row(1, 1)), run.Write(d, "b", row(1, 2), row(2, 2)))
	one, other := opened(t, d, c, "a", "b"), opened(t, d, c, "a", "b")
	adds(t, one, row(3, 3))
	ok(t, one.Flush("x"), one.Compact(3, "y"))
	runs(t, "the one", one, "y")
	runs(t, "the other", other, "a", "b")
	contains(t, "the one", one, row(1, 3), row(2, 2), row(3, 3))
	contains(t, "the other", other, row(1, 3), row(2, 2))
}
