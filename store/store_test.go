package store_test

import (
	"math"
	"slices"
	"strconv"
	"strings"
	"testing"

	"pedigree/api"
	"pedigree/cache"
	"pedigree/disk"
	"pedigree/run"
	"pedigree/store"
)

func TestOpen(t *testing.T) { // P10.1
	d := newDisk(t)
	for what, c := range map[string]*cache.Cache{"no cache": nil, "a struct": new(cache.Cache), "no room": newCache(t, 0), "a cache": newCache(t, 3)} {
		s := opened(t, d, c)
		runs(t, what, s)
		rest(t, what, s)
		contains(t, what, s)
		gets(t, what, s, ints(5), 0)
	}
	s := laid(t, d, nil, rows(row(1, 1), row(3, -2)), nil, rows(row(2, 5)))
	runs(t, "three runs", s, "a", "b", "c")
	rest(t, "three runs", s)
	contains(t, "three runs", s, row(1, 1), row(2, 5), row(3, -2))
	s = opened(t, d, nil, "c", "a")
	runs(t, "as they are given", s, "c", "a")
	contains(t, "as they are given", s, row(1, 1), row(2, 5), row(3, -2))
	s = opened(t, d, nil, "b")
	runs(t, "a run without entries", s, "b")
	contains(t, "a run without entries", s)
	s = opened(t, d, newCache(t, 2), "a", "c", "a", "b", "a")
	runs(t, "a run thrice", s, "a", "c", "a", "b", "a")
	contains(t, "a run thrice", s, row(1, 3), row(2, 5), row(3, -6))
}

// TestOpenMany: as many runs as there may be, and one more.
func TestOpenMany(t *testing.T) { // P10.1
	d := newDisk(t)
	ok(t, run.Write(d, "a", row(1, 2)))
	for _, n := range []int{api.MaxRuns - 1, api.MaxRuns} {
		names := slices.Repeat([]string{"a"}, n)
		s := opened(t, d, nil, names...)
		runs(t, strconv.Itoa(n), s, names...)
		contains(t, strconv.Itoa(n), s, row(1, 2*int64(n)))
	}
	copied := *d
	for _, n := range []int{api.MaxRuns + 1, api.MaxRuns + 2, 1000} {
		many := slices.Repeat([]string{"a"}, n)
		openFails(t, "too many", d, api.ErrMany, many...)
		openFails(t, "too many, a nil disk", nil, api.ErrMany, many...)
		openFails(t, "too many, a struct", new(disk.Disk), api.ErrMany, many...)
		openFails(t, "too many, a copy", &copied, api.ErrMany, many...)
		many[0] = "none"
		openFails(t, "too many, the first is missing", d, api.ErrMany, many...)
	}
}

func TestOpenFails(t *testing.T) { // P10.1
	d := newDisk(t)
	ok(t, run.Write(d, "a", row(1, 2)), run.Write(d, "spoilt", row(1, 2)), d.Rot("spoilt", 20, 1), d.Create("empty"))
	openFails(t, "missing", d, api.ErrNone, "none")
	openFails(t, "missing, the last", d, api.ErrNone, "a", "a", "none")
	openFails(t, "the empty name", d, api.ErrNone, "")
	openFails(t, "a long name", d, api.ErrNone, strings.Repeat("n", api.MaxFName+1))
	openFails(t, "spoilt", d, api.ErrRot, "spoilt")
	openFails(t, "no bytes", d, api.ErrRot, "a", "empty")
	openFails(t, "spoilt first", d, api.ErrRot, "a", "spoilt", "none")
	openFails(t, "missing first", d, api.ErrNone, "a", "none", "spoilt")
	copied := *d
	for what, d := range map[string]*disk.Disk{"nil": nil, "a struct": new(disk.Disk), "a copy": &copied} {
		openFails(t, what, d, api.ErrNil)
		openFails(t, what, d, api.ErrNil, "a")
		openFails(t, what, d, api.ErrNil, "none", "spoilt")
	}
}

// TestOpenReadsNoPages: neither by itself nor by the cache, and a disk that is down can be read.
func TestOpenReadsNoPages(t *testing.T) { // P10.1
	d, c := newDisk(t), newCache(t, 10)
	ok(t, run.Write(d, "a", row(1, 2)), d.Rot("a", 2, 1), d.Fuse(0))
	s := opened(t, d, c, "a", "a")
	runs(t, "a spoilt page", s, "a", "a")
	if st := c.Stats(); st != (api.CacheStats{}) {
		t.Errorf("Open asked for pages: %v", st)
	}
	scanFails(t, "a spoilt page", s, api.ErrRot)
}

func TestNotMade(t *testing.T) { // the rule on objects
	d := newDisk(t)
	made := laid(t, d, nil, rows(row(1, 1)))
	adds(t, made, row(2, 2))
	copied := *made
	for what, s := range map[string]*store.Store{"nil": nil, "a struct": new(store.Store), "a copy": &copied} {
		runs(t, what, s)
		rest(t, what, s)
		getFails(t, what, s, ints(2), api.ErrNil)
		scanFails(t, what, s, api.ErrNil)
		is(t, what+": Add", s.Add(ints(1), 1), api.ErrNil)
		is(t, what+": Add of what is no tuple", s.Add(make(api.Tuple, 9), math.MaxInt64), api.ErrNil)
		is(t, what+": Flush", s.Flush("x"), api.ErrNil)
		is(t, what+": Flush of no name", s.Flush(""), api.ErrNil)
		for _, k := range []int{-1, 0, 1, 2} {
			is(t, what+": Compact", s.Compact(k, "x"), api.ErrNil)
		}
	}
	runs(t, "the one that was copied", made, "a")
	rest(t, "the one that was copied", made, row(2, 2))
	contains(t, "the one that was copied", made, row(1, 1), row(2, 2))
	if l := d.Names(); !slices.Equal(l, []string{"a"}) {
		t.Errorf("files %q", l)
	}
}

func TestAdd(t *testing.T) { // P10.2, P10.1
	s := opened(t, newDisk(t), nil)
	for i, step := range []struct {
		add  api.Counted
		rest []api.Counted
	}{
		{row(5, 1), rows(row(5, 1))},
		{row(5, 2), rows(row(5, 3))},
		{row(3, -4), rows(row(3, -4), row(5, 3))},
		{row(9, 1), rows(row(3, -4), row(5, 3), row(9, 1))},
		{row(4, 0), rows(row(3, -4), row(5, 3), row(9, 1))},
		{row(5, 0), rows(row(3, -4), row(5, 3), row(9, 1))},
		{row(5, -5), rows(row(3, -4), row(5, -2), row(9, 1))},
		{row(5, 2), rows(row(3, -4), row(9, 1))},
		{row(3, 4), rows(row(9, 1))},
		{row(5, 7), rows(row(5, 7), row(9, 1))},
		{row(9, -1), rows(row(5, 7))},
		{row(5, -7), nil},
		{row(5, 0), nil},
		{row(5, -1), rows(row(5, -1))},
	} {
		what := "step " + strconv.Itoa(i)
		is(t, what, s.Add(step.add.T, step.add.N), api.OK)
		rest(t, what, s, step.rest...)
		contains(t, what, s, step.rest...)
		runs(t, what, s)
	}
}

// TestAddAnyTuple: of any length, each is a tuple of its own, and Rest is in their order.
func TestAddAnyTuple(t *testing.T) { // P10.2, P10.1
	long := sym(strings.Repeat("\x00", api.MaxSym))
	want := rows(
		of(nil, 1), of(ints(math.MinInt64), 2), of(ints(-1), 3), of(ints(0), 4), of(ints(0, 0), 5), of(ints(0, 0, 0, 0, 0, 0, 0, 0), 6),
		of(api.Tuple{num(0), sym("")}, 7), of(ints(2), 8), of(ints(10), 9), of(ints(math.MaxInt64), 10),
		of(api.Tuple{sym("")}, 11), of(api.Tuple{long}, 12), of(api.Tuple{sym("\"")}, 13), of(api.Tuple{sym("(1)")}, 14),
		of(api.Tuple{sym("1")}, 15), of(api.Tuple{sym("1"), num(1)}, 16), of(api.Tuple{sym("1, 1")}, 17), of(api.Tuple{sym("a"), sym("b")}, 18), of(api.Tuple{sym("a, b")}, 19),
	)
	for _, step := range []int{1, 2, 5, 7} { // all of them are met, since 19 is a prime number
		s := opened(t, newDisk(t), nil)
		for i := range want {
			c := want[i*step%len(want)]
			adds(t, s, of(c.T, c.N-1), of(c.T, 1))
		}
		rest(t, "all", s, want...)
		contains(t, "all", s, want...)
	}
}

func TestAddLimits(t *testing.T) { // P10.2
	const most = api.MaxCount
	for i, c := range []struct {
		have, n int64
		want    api.Errno
	}{
		{0, most, api.OK}, {0, -most, api.OK}, {0, most + 1, api.ErrCount}, {0, -most - 1, api.ErrCount},
		{1, most - 1, api.OK}, {1, most, api.ErrCount}, {-1, -most + 1, api.OK}, {-1, -most, api.ErrCount},
		{most, 0, api.OK}, {most, 1, api.ErrCount}, {most, -1, api.OK}, {most, most, api.ErrCount}, {most, -most, api.OK}, {most - 1, 1, api.OK},
		{-most, 0, api.OK}, {-most, -1, api.ErrCount}, {-most, 1, api.OK}, {-most, -most, api.ErrCount}, {-most, most, api.OK}, {-most + 1, -1, api.OK},
		{-1, most, api.OK}, {-1, most + 1, api.ErrCount}, {1, -most - 1, api.ErrCount}, {-most, most + 1, api.ErrCount}, {most, -most - 1, api.ErrCount}, // n alone is too great
		{0, math.MaxInt64, api.ErrCount}, {0, math.MinInt64, api.ErrCount}, {-most, math.MaxInt64, api.ErrCount}, {most, math.MinInt64, api.ErrCount},
		{1, math.MaxInt64, api.ErrCount}, {-1, math.MinInt64, api.ErrCount}, {most, math.MaxInt64, api.ErrCount}, {-most, math.MinInt64, api.ErrCount},
	} {
		what := "case " + strconv.Itoa(i)
		s := opened(t, newDisk(t), nil)
		adds(t, s, row(5, c.have), row(6, 1))
		is(t, what, s.Add(ints(5), c.n), c.want)
		sum := c.have
		if c.want == api.OK {
			sum += c.n
		}
		want := rows(row(5, sum), row(6, 1))
		if sum == 0 {
			want = want[1:]
		}
		rest(t, what, s, want...)
		contains(t, what, s, want...)
	}
}

// TestAddLimitIsOfTheRest: what the runs have is not asked.
func TestAddLimitIsOfTheRest(t *testing.T) { // P10.2
	s := laid(t, newDisk(t), nil, rows(row(5, math.MaxInt64)))
	is(t, "beside a run", s.Add(ints(5), -api.MaxCount), api.OK)
	is(t, "beside a run, one past", s.Add(ints(5), -1), api.ErrCount)
	ok(t, s.Flush("x"))
	is(t, "behind Flush", s.Add(ints(5), -api.MaxCount), api.OK)
	is(t, "behind Flush, one past", s.Add(ints(5), -1), api.ErrCount)
	rest(t, "behind Flush", s, row(5, -api.MaxCount))
	gets(t, "behind Flush", s, ints(5), -1)
}

func TestAddNoTuple(t *testing.T) { // P10.2
	s := opened(t, newDisk(t), nil)
	adds(t, s, row(1, 1))
	for i, x := range []api.Tuple{
		ints(1, 2, 3, 4, 5, 6, 7, 8, 9), make(api.Tuple, 1), make(api.Tuple, 9), {num(1), {Kind: 3}}, {{Kind: -1}},
		{{Kind: api.VInt, N: 1, S: "a"}}, {{Kind: api.VSym, N: 1, S: "a"}}, {sym(strings.Repeat("a", api.MaxSym+1))}, {num(1), sym("a"), {}},
	} {
		what := "case " + strconv.Itoa(i)
		for _, n := range []int64{0, 1, -1, api.MaxCount, api.MaxCount + 1, math.MinInt64} {
			is(t, what, s.Add(x, n), api.ErrTuple)
		}
		gets(t, what, s, x, 0)
		rest(t, what, s, row(1, 1))
	}
}

// TestRunsRest: through a store's life.
func TestRunsRest(t *testing.T) { // P10.1, P10.4, P10.5
	s := opened(t, newDisk(t), nil)
	adds(t, s, row(2, 2), row(1, 1))
	runs(t, "added", s)
	rest(t, "added", s, row(1, 1), row(2, 2))
	ok(t, s.Flush("one"))
	runs(t, "flushed", s, "one")
	rest(t, "flushed", s)
	adds(t, s, row(2, -2))
	runs(t, "added again", s, "one")
	rest(t, "added again", s, row(2, -2))
	ok(t, s.Flush("another"))
	runs(t, "flushed again", s, "one", "another")
	rest(t, "flushed again", s)
	adds(t, s, row(3, 3))
	ok(t, s.Compact(2, "both"))
	runs(t, "compacted", s, "both")
	rest(t, "compacted", s, row(3, 3))
	contains(t, "compacted", s, row(1, 1), row(3, 3))
}

// TestMemory: what is handed in and what is returned is nobody else's.
func TestMemory(t *testing.T) { // the rule on memory
	d := newDisk(t)
	ok(t, run.Write(d, "a", row(1, 1), row(2, 2)), run.Write(d, "b", row(2, 1)))
	for what, c := range map[string]*cache.Cache{"no cache": nil, "a cache": newCache(t, 10)} {
		names := []string{"a", "b"}
		s := opened(t, d, c, names...)
		names[0] = "x"
		given := ints(3)
		ok(t, s.Add(given, 3))
		given[0] = num(8)
		adds(t, s, row(4, 4))
		s.Runs()[0] = "y"
		spoil(s.Rest())
		for range 2 {
			l, _ := s.Scan(nil, nil)
			spoil(l)
		}
		low, high := ints(2), ints(3)
		scans(t, what, s, low, high, row(2, 3), row(3, 3))
		if low[0] != num(2) || high[0] != num(3) {
			t.Errorf("%s: the bounds are %v and %v", what, low, high)
		}
		runs(t, what, s, "a", "b")
		rest(t, what, s, row(3, 3), row(4, 4))
		contains(t, what, s, row(1, 1), row(2, 3), row(3, 3), row(4, 4))
		l, _ := s.Scan(nil, nil)
		m := s.Rest()
		for i := range l {
			_ = append(l[i].T, num(7)) // writes into the next tuple, if that one lies behind
		}
		for i := range m {
			_ = append(m[i].T, num(7))
		}
		if !same(l, rows(row(1, 1), row(2, 3), row(3, 3), row(4, 4))) || !same(m, l[2:]) {
			t.Errorf("%s: tuples of one answer share memory: %v, %v", what, l, m)
		}
	}
}

// spoil writes over everything in a list.
func spoil(l []api.Counted) {
	for i, c := range l {
		for j := range c.T {
			c.T[j] = sym("spoilt")
		}
		_ = append(c.T, num(-1))
		l[i] = api.Counted{N: -99}
	}
	_ = append(l, row(77, 77))
}
