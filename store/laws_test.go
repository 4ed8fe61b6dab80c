package store_test

import (
	"math/rand"
	"slices"
	"strconv"
	"testing"

	"pedigree/api"
	"pedigree/cache"
	"pedigree/disk"
	"pedigree/run"
	"pedigree/store"
	"pedigree/tuple"
)

// The consequences, on drawn calls, held against sums that are kept by themselves.

// pool are the tuples that are added, in order: of several lengths, some so long that pages have few of them.
func pool() []api.Tuple {
	l := []api.Tuple{nil, {sym("")}, {sym("a"), num(1)}, ints(3, 1), ints(3, 2), ints(3, 2, 1)}
	for i := range int64(8) {
		l = append(l, ints(i), wide(i))
	}
	return tuple.Sorted(l...)
}

// held is a store, and what it must be.
type held struct {
	t     *testing.T
	r     *rand.Rand
	disk  *disk.Disk
	store *store.Store
	pool  []api.Tuple
	sums  []int64 // of everything that was added, tuple by tuple of the pool
	rest  []int64
	runs  []string
	files int // how many names were used
}

func newHeld(t *testing.T, r *rand.Rand) *held {
	h := &held{t: t, r: r, disk: newDisk(t), pool: pool()}
	h.sums, h.rest = make([]int64, len(h.pool)), make([]int64, len(h.pool))
	h.store = opened(t, h.disk, h.cache())
	return h
}

// cache is none, one without room, or one with some.
func (h *held) cache() *cache.Cache {
	switch h.r.Intn(4) {
	case 0:
		return nil
	case 1:
		return new(cache.Cache)
	}
	return newCache(h.t, h.r.Intn(12))
}

// name is one that was not used yet.
func (h *held) name() string {
	h.files++
	return "run " + strconv.Itoa(h.files)
}

// count is one to be added, now and then a great one or one that is too great.
func (h *held) count() int64 {
	switch h.r.Intn(12) {
	case 0:
		return api.MaxCount - h.r.Int63n(3)
	case 1:
		return -api.MaxCount + h.r.Int63n(3)
	case 2:
		return int64(h.r.Uint64())
	}
	return h.r.Int63n(7) - 3
}

func (h *held) add() {
	i, n := h.r.Intn(len(h.pool)), h.count()
	if h.r.Intn(4) == 0 { // so that the rest has it no more
		n = -h.rest[i]
	}
	want := api.OK
	if n > api.MaxCount || n < -api.MaxCount || h.rest[i] > 0 && n > api.MaxCount-h.rest[i] || h.rest[i] < 0 && n < -api.MaxCount-h.rest[i] {
		want = api.ErrCount
	}
	is(h.t, "Add", h.store.Add(h.pool[i], n), want)
	if want == api.OK {
		h.rest[i] += n
		h.sums[i] += n
	}
}

// counted are the tuples of the pool with those counts that are not 0.
func (h *held) counted(counts []int64) []api.Counted {
	var l []api.Counted
	for i, n := range counts {
		if n != 0 {
			l = append(l, of(h.pool[i], n))
		}
	}
	return l
}

func (h *held) flush() {
	nothing := len(h.counted(h.rest)) == 0
	name := h.name()
	switch e := h.store.Flush(name); {
	case nothing || len(h.runs) == api.MaxRuns:
		want := api.OK
		if !nothing {
			want = api.ErrMany
		}
		is(h.t, "Flush", e, want)
	case e == api.OK:
		h.runs = append(h.runs, name)
		clear(h.rest)
	default:
		h.failed("Flush", e)
	}
}

func (h *held) compact() {
	k := h.r.Intn(len(h.runs)+3) - 1
	if h.r.Intn(3) == 0 {
		k = len(h.runs)
	}
	name := h.name()
	switch e := h.store.Compact(k, name); {
	case k < 1 || k > len(h.runs):
		is(h.t, "Compact", e, api.ErrRange)
	case e == api.OK:
		h.runs = h.runs[:len(h.runs)-k]
		if _, e := h.disk.Size(name); e == api.OK { // else there was nothing: Scan will tell if that is not so
			h.runs = append(h.runs, name)
		}
	default:
		h.failed("Compact", e)
	}
}

// failed tells if a call failed with what it may not. The fuse is set anew then.
func (h *held) failed(what string, e api.Errno) {
	h.t.Helper()
	if !h.disk.Down() {
		h.t.Errorf("%s: %d", what, e)
	}
	is(h.t, what, e, api.ErrDown)
	h.asked()
	ok(h.t, h.disk.Fuse(h.r.Intn(40)))
}

// reopen opens a store of the same runs: its rest is lost, if it was not flushed.
func (h *held) reopen() {
	ok(h.t, h.disk.Fuse(1<<20))
	if h.flush(); len(h.counted(h.rest)) == 0 {
		h.store = opened(h.t, h.disk, h.cache(), h.store.Runs()...)
	}
}

// asked tells if the store answers anything but what it must.
func (h *held) asked() {
	h.t.Helper()
	runs(h.t, "drawn", h.store, h.runs...)
	rest(h.t, "drawn", h.store, h.counted(h.rest)...)
	scans(h.t, "drawn", h.store, nil, nil, h.counted(h.sums)...)
	for i, x := range h.pool {
		gets(h.t, "drawn", h.store, x, h.sums[i])
	}
	gets(h.t, "drawn", h.store, ints(3, 2, 1, 0), 0)
}

// bounded tells if Scan answers anything but what lies within drawn bounds.
func (h *held) bounded() {
	h.t.Helper()
	low, high := h.pool[h.r.Intn(len(h.pool))], h.pool[h.r.Intn(len(h.pool))]
	var want []api.Counted
	for _, c := range h.counted(h.sums) {
		if tuple.Within(low, c.T, high) {
			want = append(want, c)
		}
	}
	scans(h.t, "drawn", h.store, low, high, want...)
}

func TestDrawn(t *testing.T) { // P10.6, P10.7, P10.8
	for seed := range int64(150) {
		r := rand.New(rand.NewSource(106 + seed))
		h := newHeld(t, r)
		if seed%2 == 0 {
			ok(t, h.disk.Fuse(r.Intn(40)))
		}
		for h.files < 100 && !t.Failed() {
			for range r.Intn(12) {
				h.add()
			}
			switch r.Intn(8) {
			case 0, 1, 2, 3:
				h.flush()
			case 4:
				h.compact()
			case 5:
				h.reopen()
				h.asked()
			case 6:
				h.asked()
			case 7:
				h.bounded()
			}
		}
		h.asked()
		if t.Failed() {
			t.Fatalf("seed %d", seed)
		}
	}
}

// TestDeepStack: drawn calls by which the stack is full most of the time.
func TestDeepStack(t *testing.T) { // P10.6, P10.8, P10.4
	r := rand.New(rand.NewSource(1064))
	h := newHeld(t, r)
	full := 0
	for h.files < 230 && !t.Failed() {
		h.add()
		h.flush()
		if len(h.runs) == api.MaxRuns {
			full++
		}
		if full%8 == 7 {
			full++
			h.asked()
			h.compact()
			h.asked()
		}
	}
	if full < 8 {
		t.Errorf("the stack was full %d times", full)
	}
}

// TestDivisions: however Adds are divided by Flushes, the sums are the same, and so is the one run that is made of them.
func TestDivisions(t *testing.T) { // P10.6
	r := rand.New(rand.NewSource(1066))
	all := pool()
	for range 30 {
		var adds []api.Counted
		for range 60 {
			adds = append(adds, of(all[r.Intn(len(all))], r.Int63n(5)-2))
		}
		var first []api.Counted
		for i := range 4 {
			d := newDisk(t)
			s := opened(t, d, newCache(t, 4))
			for j, c := range adds {
				ok(t, s.Add(c.T, c.N))
				if i > 0 && r.Intn(i*4) == 0 {
					ok(t, s.Flush("f"+strconv.Itoa(j)))
				}
			}
			l, e := s.Scan(nil, nil)
			ok(t, e)
			if i == 0 {
				first = l
			}
			contains(t, "divided", s, first...)
			ok(t, s.Flush("last"))
			if n := len(s.Runs()); n > 0 {
				ok(t, s.Compact(n, "one"))
			}
			contains(t, "in one run", s, first...)
			if len(first) > 0 {
				written(t, "in one run", d, "one", first...)
			}
		}
	}
}

// TestOrder: Scan rises, has no count of 0, and agrees with Get.
func TestOrder(t *testing.T) { // P10.7
	r := rand.New(rand.NewSource(107))
	all := pool()
	for range 200 {
		d := newDisk(t)
		var names []string
		for i := range r.Intn(6) {
			var l []api.Counted
			for _, x := range all {
				if r.Intn(3) == 0 {
					l = append(l, of(x, []int64{1, -1, 2, -1 << 63, 1<<63 - 1}[r.Intn(5)]))
				}
			}
			names = append(names, "r"+strconv.Itoa(i))
			ok(t, run.Write(d, names[i], l...))
		}
		s := opened(t, d, newCache(t, r.Intn(5)), names...)
		for range r.Intn(10) {
			ok(t, s.Add(all[r.Intn(len(all))], r.Int63n(5)-2))
		}
		l, e := s.Scan(nil, nil)
		ok(t, e)
		var found []api.Tuple
		for i, c := range l {
			if c.N == 0 || i > 0 && tuple.Compare(l[i-1].T, c.T) >= 0 {
				t.Fatalf("Scan: %v at %d", l, i)
			}
			found = append(found, c.T)
			gets(t, "of Scan", s, c.T, c.N)
		}
		for _, x := range all {
			if !slices.ContainsFunc(found, func(y api.Tuple) bool { return slices.Equal(x, y) }) {
				gets(t, "not of Scan", s, x, 0)
			}
		}
	}
}

// TestManyTuples: what is added in no order, as many as a relation has, is in order at once.
func TestManyTuples(t *testing.T) { // P10.2, P10.3, P10.4
	s := opened(t, newDisk(t), newCache(t, api.MaxCache))
	for i := range int64(api.MaxRel) {
		adds(t, s, row(i*40503%api.MaxRel, i+1)) // each number once: the factor is odd
	}
	for _, what := range []string{"in the rest", "in a run"} {
		l, e := s.Scan(nil, nil)
		ok(t, e)
		if len(l) != api.MaxRel {
			t.Fatalf("%s: %d tuples", what, len(l))
		}
		for i, c := range l {
			if c.T[0].N != int64(i) || (c.N-1)*40503%api.MaxRel != int64(i) {
				t.Fatalf("%s: %v at %d", what, c, i)
			}
		}
		ok(t, s.Flush("x"))
	}
}
