package merge_test

import (
	"math"
	"slices"
	"strconv"
	"testing"

	"pedigree/api"
	"pedigree/merge"
)

func num(n int64) api.Value { return api.Value{Kind: api.VInt, N: n} }

func sym(s string) api.Value { return api.Value{Kind: api.VSym, S: s} }

// counted is the tuple of one number, so many times.
func counted(n, times int64) api.Counted {
	return api.Counted{T: api.Tuple{num(n)}, N: times}
}

// tens compares numbers by all but their last digit, so that those that are alike can be told apart.
func tens(a, b int) int { return a/10 - b/10 }

func rising(a, b int) int { return a - b }

func even(x int) bool { return x%2 == 0 }

// watched is a cursor that counts how often it is asked. What it tells beside false is no zero value.
type watched struct {
	l     []int
	asked int
}

func (w *watched) Next() (int, bool) {
	w.asked++
	if w.asked > len(w.l) {
		return 77, false
	}
	return w.l[w.asked-1], true
}

func watch(l ...int) *watched { return &watched{l: l} }

// tells tells if a cursor tells other elements, or does not end behind them for good.
func tells[T comparable](t *testing.T, what string, c merge.Cursor[T], want ...T) {
	t.Helper()
	if c == nil {
		t.Fatalf("%s: a nil cursor", what)
	}
	for i, y := range want {
		if x, ok := c.Next(); x != y || !ok {
			t.Fatalf("%s: element %d is %v, %t, want %v of %v", what, i, x, ok, y, want)
		}
	}
	ended(t, what, c)
}

// ended tells if a cursor has elements left, or tells anything beside that it has none.
func ended[T comparable](t *testing.T, what string, c merge.Cursor[T]) {
	t.Helper()
	var zero T
	for i := range 3 {
		if x, ok := c.Next(); x != zero || ok {
			t.Fatalf("%s: asked %d times behind the last one: %v, %t", what, i+1, x, ok)
		}
	}
}

// asked tells if a cursor was asked another number of times.
func asked(t *testing.T, what string, w *watched, want int) {
	t.Helper()
	if w.asked != want {
		t.Errorf("%s: asked %d times, want %d", what, w.asked, want)
	}
}

// sums tells if a cursor tells other counted tuples.
func sums(t *testing.T, what string, c merge.Cursor[api.Counted], want ...api.Counted) {
	t.Helper()
	if c == nil {
		t.Fatalf("%s: a nil cursor", what)
	}
	if l := merge.Rest(c); !sameCounted(l, want) {
		t.Errorf("%s: %v, want %v", what, l, want)
	}
	for range 3 {
		if x, ok := c.Next(); len(x.T) != 0 || x.N != 0 || ok {
			t.Errorf("%s: behind the last one: %v, %t", what, x, ok)
		}
	}
}

func sameCounted(a, b []api.Counted) bool {
	return slices.EqualFunc(a, b, func(a, b api.Counted) bool { return a.N == b.N && slices.Equal(a.T, b.T) })
}

func TestOf(t *testing.T) { // P9.1
	tells(t, "of three", merge.Of(3, 1, 2), 3, 1, 2)
	tells(t, "of one", merge.Of("a"), "a")
	tells(t, "of the same ones", merge.Of(1, 1, 1), 1, 1, 1)
	tells(t, "of zero values", merge.Of(0, 0), 0, 0)
	tells(t, "of none", merge.Of[int]())
	tells(t, "of a nil row", merge.Of([]string(nil)...))
}

func TestOfCopies(t *testing.T) { // P9.1
	l := make([]int, 3, 10)
	copy(l, []int{1, 2, 3})
	c := merge.Of(l...)
	l[0] = 9
	if x, ok := c.Next(); x != 1 || !ok {
		t.Errorf("changed ahead of the first: %d, %t", x, ok)
	}
	l[1], l[2] = 9, 9
	_ = append(l, 9)
	tells(t, "changed behind the first", c, 2, 3)
	if !slices.Equal(l, []int{9, 9, 9}) {
		t.Errorf("the row that was handed in is now %v", l)
	}
	tells(t, "of the row again", merge.Of(l...), 9, 9, 9)
}

func TestOfIsApart(t *testing.T) { // P9.1
	l := []int{1, 2}
	a, b := merge.Of(l...), merge.Of(l...)
	a.Next()
	tells(t, "one", b, 1, 2)
	tells(t, "the other one", a, 2)
}

func TestAll(t *testing.T) { // P9.1
	var l []int
	for x := range merge.All(merge.Of(3, 1, 2)) {
		l = append(l, x)
	}
	if !slices.Equal(l, []int{3, 1, 2}) {
		t.Errorf("All: %v", l)
	}
	for x := range merge.All(merge.Of[int]()) {
		t.Errorf("All of none: %d", x)
	}
	for x := range merge.All[int](nil) {
		t.Errorf("All of nil: %d", x)
	}
}

func TestAllLeftHalfWay(t *testing.T) { // P9.1
	w := watch(1, 2, 3, 4)
	all := merge.All[int](w)
	asked(t, "ahead of ranging", w, 0)
	for x := range all {
		if x == 2 {
			break
		}
	}
	asked(t, "left half way", w, 2)
	for x := range all {
		if x != 3 {
			t.Errorf("ranged over again: %d", x)
		}
		break
	}
	asked(t, "left again", w, 3)
	if l := merge.Rest[int](w); !slices.Equal(l, []int{4}) {
		t.Errorf("Rest behind it: %v", l)
	}
	for x := range all {
		t.Errorf("All behind the last one: %d", x)
	}
}

func TestAllIsFromNowOn(t *testing.T) { // P9.1
	c := merge.Of(1, 2, 3)
	all := merge.All(c)
	c.Next()
	if l := slices.Collect(all); !slices.Equal(l, []int{2, 3}) {
		t.Errorf("All: %v", l)
	}
	d := merge.Of(1, 2, 3, 4)
	for x := range merge.All(d) { // what is taken within the loop is not told by it
		y, ok := d.Next()
		if y != x+1 || !ok || x%2 != 1 {
			t.Errorf("in the loop: %d, then %d, %t", x, y, ok)
		}
	}
}

func TestAllOfNoYield(t *testing.T) { // P9.1
	w := watch(1, 2)
	merge.All[int](w)(nil)
	asked(t, "a nil yield", w, 0)
}

func TestRest(t *testing.T) { // P9.1
	c := merge.Of(3, 1, 2)
	c.Next()
	if l := merge.Rest(c); !slices.Equal(l, []int{1, 2}) {
		t.Errorf("Rest: %v", l)
	}
	for range 2 {
		if l := merge.Rest(c); len(l) != 0 {
			t.Errorf("Rest of what has ended: %v", l)
		}
	}
	if l := merge.Rest[int](nil); len(l) != 0 {
		t.Errorf("Rest of nil: %v", l)
	}
	if l := merge.Rest(merge.Of[int]()); len(l) != 0 {
		t.Errorf("Rest of none: %v", l)
	}
}

func TestRestIsNewMemory(t *testing.T) { // P9.1
	l := []int{1, 2, 3}
	r := merge.Rest(merge.Of(l...))
	r[0] = 9
	if l[0] != 1 {
		t.Errorf("the row is now %v", l)
	}
	l[1] = 9
	if !slices.Equal(r, []int{9, 2, 3}) {
		t.Errorf("Rest is now %v", r)
	}
}

func TestMerge(t *testing.T) { // P9.2
	tells(t, "the example", merge.Merge(rising, merge.Of(1, 4), merge.Of(2, 4)), 1, 2, 4, 4)
	tells(t, "the example, whose 4 is whose", merge.Merge(tens, merge.Of(11, 41), merge.Of(22, 42)), 11, 22, 41, 42)
	tells(t, "the other way round", merge.Merge(tens, merge.Of(22, 42), merge.Of(11, 41)), 11, 22, 42, 41)
	tells(t, "of no cursor", merge.Merge(rising))
	tells(t, "of a nil row of cursors", merge.Merge(rising, []merge.Cursor[int](nil)...))
	tells(t, "of one", merge.Merge(rising, merge.Of(1, 2)), 1, 2)
	tells(t, "of one out of order", merge.Merge(rising, merge.Of(2, 1, 3)), 2, 1, 3)
	tells(t, "of one that is nil", merge.Merge[int](rising, nil))
	tells(t, "some nil", merge.Merge(rising, nil, merge.Of(2, 3), nil, merge.Of(1, 4), nil), 1, 2, 3, 4)
	tells(t, "some without elements", merge.Merge(rising, merge.Of[int](), merge.Of(2), merge.Of[int](), merge.Of(1)), 1, 2)
	tells(t, "all without elements", merge.Merge(rising, merge.Of[int](), nil, merge.Of[int]()))
	over := merge.Of(1)
	over.Next()
	over.Next()
	tells(t, "one has ended", merge.Merge(rising, over, merge.Of(2)), 2)
	tells(t, "one ends early", merge.Merge(rising, merge.Of(1), merge.Of(2, 3)), 1, 2, 3)
	tells(t, "one behind the other", merge.Merge(rising, merge.Of(4, 5), merge.Of(1, 2)), 1, 2, 4, 5)
	tells(t, "no comparison", merge.Merge(nil, merge.Of(1), merge.Of(2)))
}

func TestMergeOfEquivalentHeads(t *testing.T) { // P9.2
	c := merge.Merge(tens, merge.Of(20, 21), merge.Of(10, 22, 23), merge.Of(11, 24), merge.Of(12, 30))
	tells(t, "equivalent heads", c, 10, 11, 12, 20, 21, 22, 23, 24, 30)
	all := func(a, b int) int { return 0 }
	tells(t, "all are equivalent", merge.Merge(all, merge.Of(5, 1), merge.Of(4), merge.Of(3, 2)), 5, 1, 4, 3, 2)
	big := func(a, b int) int { return (a - b) * (math.MaxInt / 100) }
	tells(t, "great numbers of both signs", merge.Merge(big, merge.Of(2), merge.Of(1), merge.Of(3)), 1, 2, 3)
	ends := func(a, b int) int {
		if a < b {
			return math.MinInt
		}
		return math.MaxInt
	}
	tells(t, "the least and the greatest number", merge.Merge(ends, merge.Of(2, 6), merge.Of(1, 4)), 1, 2, 4, 6)
}

func TestMergeOutOfOrder(t *testing.T) { // P9.2
	tells(t, "heads alone count", merge.Merge(rising, merge.Of(5, 1), merge.Of(2, 9, 3)), 2, 5, 1, 9, 3)
	falling := func(a, b int) int { return b - a }
	tells(t, "by another order", merge.Merge(falling, merge.Of(5, 1), merge.Of(9, 3)), 9, 5, 3, 1)
}

// TestMergeByNoOrder has comparisons by which the least head hangs on which is kept.
func TestMergeByNoOrder(t *testing.T) { // P9.2
	circle := func(a, b int) int { // 0 precedes 1, 1 precedes 2, 2 precedes 0
		return []int{0, 1, -1}[(a-b+3)%3]
	}
	tells(t, "each precedes another: 0 1 2", merge.Merge(circle, merge.Of(0), merge.Of(1), merge.Of(2)), 2, 0, 1)
	tells(t, "each precedes another: 0 2 1", merge.Merge(circle, merge.Of(0), merge.Of(2), merge.Of(1)), 1, 2, 0)
	tells(t, "each precedes another: 1 0 2", merge.Merge(circle, merge.Of(1), merge.Of(0), merge.Of(2)), 2, 0, 1)
	before := func(a, b int) int { return -1 }
	tells(t, "each precedes each: the last one is kept", merge.Merge(before, merge.Of(1, 2), merge.Of(3, 4)), 3, 4, 1, 2)
	behind := func(a, b int) int { return 1 }
	tells(t, "each follows each: the first one is kept", merge.Merge(behind, merge.Of(3, 4), merge.Of(1, 2)), 3, 4, 1, 2)
	near := func(a, b int) int { // those that are near are alike
		if d := a - b; d < -1 || d > 1 {
			return d
		}
		return 0
	}
	tells(t, "alike, but not one by one", merge.Merge(near, merge.Of(3), merge.Of(2), merge.Of(1)), 1, 3, 2)
}

// TestMergeAsks: which is handed in first is told by a comparison that looks at one side alone.
func TestMergeAsks(t *testing.T) { // P9.2
	small := func(a, b int) int { // a small one precedes whatever it is held against
		if a < 10 {
			return -1
		}
		return 1
	}
	tells(t, "the later head against the kept one", merge.Merge(small, merge.Of(30), merge.Of(4), merge.Of(5), merge.Of(20)), 5, 4, 30, 20)
}

func TestOnce(t *testing.T) { // P9.2
	tells(t, "rows", merge.Once(tens, merge.Of(10, 11, 12, 20, 30, 31)), 10, 20, 30)
	tells(t, "alike, but not one behind the other", merge.Once(tens, merge.Of(10, 11, 20, 12, 13, 21, 14)), 10, 20, 12, 21, 14)
	tells(t, "the same ones", merge.Once(rising, merge.Of(1, 1, 1)), 1)
	tells(t, "zero values first", merge.Once(rising, merge.Of(0, 0, 1, 0)), 0, 1, 0)
	tells(t, "falling", merge.Once(rising, merge.Of(3, 3, 2, 1, 1)), 3, 2, 1)
	tells(t, "of one", merge.Once(rising, merge.Of(7)), 7)
	tells(t, "of none", merge.Once(rising, merge.Of[int]()))
	tells(t, "of nil", merge.Once[int](rising, nil))
	tells(t, "no comparison", merge.Once(nil, merge.Of(1, 2)))
}

// TestOnceHoldsAgainstTheOneReturned, not against the one that was left out.
func TestOnceHoldsAgainstTheOneReturned(t *testing.T) { // P9.2
	near := func(a, b int) int {
		if d := a - b; d < -1 || d > 1 {
			return d
		}
		return 0
	}
	tells(t, "near", merge.Once(near, merge.Of(1, 2, 3, 4, 5, 6)), 1, 3, 5)
	never := func(a, b int) int { return 1 }
	tells(t, "not alike themselves", merge.Once(never, merge.Of(1, 1, 1)), 1, 1, 1)
}

// TestOnceAsks whether the later one is alike to the one that was returned: a comparison that looks at one side alone tells it from the other way round.
func TestOnceAsks(t *testing.T) { // P9.2
	small := func(a, b int) int { // a small one is alike to whatever it is held against
		if a < 10 {
			return 0
		}
		return 1
	}
	tells(t, "the small one behind", merge.Once(small, merge.Of(10, 1, 2, 30)), 10, 30)
	tells(t, "the small one ahead", merge.Once(small, merge.Of(1, 10, 30, 2)), 1, 10, 30)
}

func TestBothAndLess(t *testing.T) { // P9.3
	cases := []struct {
		what       string
		a, b       []int
		both, less []int
	}{
		{"some", []int{10, 20, 30, 40}, []int{21, 31, 50}, []int{20, 30}, []int{10, 40}},
		{"none alike", []int{10, 30}, []int{20, 40}, nil, []int{10, 30}},
		{"all alike", []int{10, 20}, []int{11, 21}, []int{10, 20}, nil},
		{"b ends ahead of a", []int{10, 20, 30, 40}, []int{10, 21}, []int{10, 20}, []int{30, 40}},
		{"b ends ahead of all of a", []int{30, 40}, []int{10, 20}, nil, []int{30, 40}},
		{"a ends ahead of b", []int{10, 20}, []int{20, 30, 40}, []int{20}, []int{10}},
		{"several of b alike", []int{10, 20, 30}, []int{20, 21, 22, 30}, []int{20, 30}, []int{10}},
		{"several of b alike, and one of a behind them", []int{20, 30}, []int{20, 21, 22}, []int{20}, []int{30}},
		{"several of a alike", []int{10, 11, 20, 21, 22}, []int{11, 23}, []int{10, 11, 20, 21, 22}, nil},
		{"several of a alike, none in b", []int{10, 11, 20}, []int{20}, []int{20}, []int{10, 11}},
		{"a out of order", []int{30, 10, 40}, []int{10, 30, 40}, []int{30, 40}, []int{10}},
		{"b out of order", []int{10, 20, 30}, []int{30, 10, 20}, []int{30}, []int{10, 20}},
		{"a has none", nil, []int{1}, nil, nil},
		{"b has none", []int{1, 2}, nil, nil, []int{1, 2}},
		{"neither has any", nil, nil, nil, nil},
		{"zero values", []int{0, 0}, []int{0}, []int{0, 0}, nil},
		{"zero values, and none", []int{0, 0}, nil, nil, []int{0, 0}},
	}
	for _, c := range cases {
		tells(t, "Both: "+c.what, merge.Both(tens, merge.Of(c.a...), merge.Of(c.b...)), c.both...)
		tells(t, "Less: "+c.what, merge.Less(tens, merge.Of(c.a...), merge.Of(c.b...)), c.less...)
	}
}

func TestBothAndLessOfNil(t *testing.T) { // P9.3
	tells(t, "Both of nil", merge.Both(tens, nil, merge.Of(1)))
	tells(t, "Less of nil", merge.Less(tens, nil, merge.Of(1)))
	tells(t, "Both with nil", merge.Both(tens, merge.Of(1), nil))
	tells(t, "Less with nil", merge.Less(tens, merge.Of(1, 2), nil), 1, 2)
	tells(t, "Both of two nil", merge.Both[int](tens, nil, nil))
	tells(t, "Less of two nil", merge.Less[int](tens, nil, nil))
	tells(t, "Both without comparison", merge.Both(nil, merge.Of(1), merge.Of(1)))
	tells(t, "Less without comparison", merge.Less(nil, merge.Of(1), merge.Of(2)))
}

// TestBothAndLessAsk: which is handed in first is told by a comparison that looks at one side alone: b's heads that precede anything are the small ones.
func TestBothAndLessAsk(t *testing.T) { // P9.3
	small := func(y, x int) int {
		if y < 10 {
			return -1
		}
		return y/10 - x/10
	}
	tells(t, "Both", merge.Both(small, merge.Of(3, 20, 30), merge.Of(4, 5, 20)), 20)
	tells(t, "Less", merge.Less(small, merge.Of(3, 20, 30), merge.Of(4, 5, 20)), 3, 30)
	evens := func(y, x int) int { // an even one precedes whatever it is held against
		if even(y) {
			return -1
		}
		return y - x
	}
	tells(t, "Both: skipped is what precedes", merge.Both(evens, merge.Of(1, 3, 5), merge.Of(2, 1, 4, 3, 7)), 1, 3)
	tells(t, "Less: skipped is what precedes", merge.Less(evens, merge.Of(1, 3, 5), merge.Of(2, 1, 4, 3, 7)), 5)
	before := func(a, b int) int { return -1 }
	tells(t, "Both: each precedes each", merge.Both(before, merge.Of(1, 2), merge.Of(1, 2)))
	tells(t, "Less: each precedes each", merge.Less(before, merge.Of(1, 2), merge.Of(1, 2)), 1, 2)
	behind := func(a, b int) int { return 1 }
	tells(t, "Both: each follows each", merge.Both(behind, merge.Of(1, 2), merge.Of(1, 2)))
	tells(t, "Less: each follows each", merge.Less(behind, merge.Of(1, 2), merge.Of(1, 2)), 1, 2)
}

func TestOnly(t *testing.T) { // P9.4
	tells(t, "some", merge.Only(even, merge.Of(1, 2, 3, 4, 4, 5)), 2, 4, 4)
	tells(t, "all", merge.Only(even, merge.Of(2, 0)), 2, 0)
	tells(t, "none of them", merge.Only(even, merge.Of(1, 3)))
	tells(t, "of none", merge.Only(even, merge.Of[int]()))
	tells(t, "of nil", merge.Only(even, nil))
	tells(t, "nothing to hold", merge.Only(nil, merge.Of(1, 2)))
	n := 0
	tells(t, "each is asked once", merge.Only(func(x int) bool { n++; return n%2 == 1 }, merge.Of(1, 1, 1, 1, 1)), 1, 1, 1)
	if n != 5 {
		t.Errorf("holds was asked %d times about 5", n)
	}
}

func TestFirst(t *testing.T) { // P9.4
	for n, want := range map[int][]int{math.MinInt: nil, -1: nil, 0: nil, 1: {3}, 2: {3, 1}, 3: {3, 1, 2}, 4: {3, 1, 2}, math.MaxInt: {3, 1, 2}} {
		c := merge.Of(3, 1, 2)
		tells(t, "First of "+strconv.Itoa(n), merge.First(n, c), want...)
		tells(t, "behind First of "+strconv.Itoa(n), c, []int{3, 1, 2}[len(want):]...)
	}
	tells(t, "of none", merge.First(2, merge.Of[int]()))
	tells(t, "of nil", merge.First[int](2, nil))
	tells(t, "0 of nil", merge.First[int](0, nil))
	c := merge.Of(1, 2, 3, 4, 5)
	tells(t, "two", merge.First(2, c), 1, 2)
	tells(t, "two more", merge.First(2, c), 3, 4)
	tells(t, "and those left", merge.First(2, c), 5)
}

func TestTurn(t *testing.T) { // P9.4
	tells(t, "to another type", merge.Turn(strconv.Itoa, merge.Of(1, 2, 2)), "1", "2", "2")
	tells(t, "to zero values", merge.Turn(func(string) int { return 0 }, merge.Of("a", "b")), 0, 0)
	tells(t, "of none", merge.Turn(strconv.Itoa, merge.Of[int]()))
	tells(t, "of nil", merge.Turn(strconv.Itoa, nil))
	tells(t, "nothing to turn", merge.Turn[int, string](nil, merge.Of(1)))
	n := 0
	tells(t, "each once", merge.Turn(func(x int) int { n++; return n * x }, merge.Of(1, 1, 1)), 1, 2, 3)
	if n != 3 {
		t.Errorf("turn was called %d times for 3", n)
	}
}

func TestSum(t *testing.T) { // P9.5
	sums(t, "the example", merge.Sum(merge.Of(counted(5, 2)), merge.Of(counted(5, -2))))
	sums(t, "two", merge.Sum(merge.Of(counted(1, 2), counted(3, 4)), merge.Of(counted(1, 1), counted(2, -7))),
		counted(1, 3), counted(2, -7), counted(3, 4))
	sums(t, "three, with sums of 0 in the midst",
		merge.Sum(
			merge.Of(counted(1, 1), counted(2, 1), counted(3, 1), counted(4, 1)),
			merge.Of(counted(2, 1), counted(3, -1), counted(4, 1)),
			merge.Of(counted(2, -2), counted(4, 1), counted(5, 0))),
		counted(1, 1), counted(4, 3))
	sums(t, "in one cursor", merge.Sum(merge.Of(counted(1, 2), counted(1, 3), counted(2, 4), counted(2, -4), counted(3, 1))),
		counted(1, 5), counted(3, 1))
	sums(t, "0 on its way to another number", merge.Sum(merge.Of(counted(1, 1), counted(1, -1), counted(1, 5))), counted(1, 5))
	sums(t, "a count of 0", merge.Sum(merge.Of(counted(1, 0), counted(2, 1))), counted(2, 1))
	sums(t, "nothing but 0", merge.Sum(merge.Of(counted(1, 0), counted(2, 0)), merge.Of(counted(3, 0))))
	sums(t, "of one", merge.Sum(merge.Of(counted(9, -1))), counted(9, -1))
	sums(t, "of no cursor", merge.Sum())
	sums(t, "of nil", merge.Sum(nil))
	sums(t, "of some nil", merge.Sum(nil, merge.Of(counted(2, 1)), nil, merge.Of(counted(1, 1))), counted(1, 1), counted(2, 1))
	sums(t, "of none", merge.Sum(merge.Of[api.Counted](), merge.Of[api.Counted]()))
}

func TestSumByTuple(t *testing.T) { // P9.5
	row := func(n int64, l ...api.Value) api.Counted { return api.Counted{T: l, N: n} }
	sums(t, "by tuple.Compare",
		merge.Sum(
			merge.Of(row(1), row(1, num(-1), sym("b")), row(1, num(2)), row(1, sym(""))),
			merge.Of(row(1), row(1, num(-1)), row(1, num(-1), sym("b")), row(1, sym("a"), num(0))),
			merge.Of(row(1, num(-1), num(7)), row(1, num(10)), row(1, sym("")))),
		row(2), row(1, num(-1)), row(1, num(-1), num(7)), row(2, num(-1), sym("b")), row(1, num(2)), row(1, num(10)), row(2, sym("")), row(1, sym("a"), num(0)))
	sums(t, "not by their counts", merge.Sum(merge.Of(counted(1, 9), counted(2, 1)), merge.Of(counted(1, 1), counted(2, 9))),
		counted(1, 10), counted(2, 10))
}

func TestSumOutOfOrder(t *testing.T) { // P9.5
	sums(t, "alike, but not one behind the other in the merge",
		merge.Sum(merge.Of(counted(2, 1), counted(1, 1), counted(2, 1)), merge.Of(counted(2, 5))),
		counted(2, 1), counted(1, 1), counted(2, 6))
	sums(t, "falling", merge.Sum(merge.Of(counted(3, 1), counted(2, 1)), merge.Of(counted(1, 1))),
		counted(1, 1), counted(3, 1), counted(2, 1))
}

func TestSumOverflows(t *testing.T) { // P9.5
	great, least := int64(math.MaxInt64), int64(math.MinInt64)
	sums(t, "one too great", merge.Sum(merge.Of(counted(1, great)), merge.Of(counted(1, 1))), counted(1, least))
	sums(t, "one too small", merge.Sum(merge.Of(counted(1, least)), merge.Of(counted(1, -1))), counted(1, great))
	sums(t, "twice the least is 0", merge.Sum(merge.Of(counted(1, least)), merge.Of(counted(1, least)), merge.Of(counted(2, 1))), counted(2, 1))
	sums(t, "over and back", merge.Sum(merge.Of(counted(1, great)), merge.Of(counted(1, great)), merge.Of(counted(1, 2))))
	sums(t, "the ends alone", merge.Sum(merge.Of(counted(1, great), counted(2, least))), counted(1, great), counted(2, least))
}

func TestSumSharesNothing(t *testing.T) { // P9.5
	a := []api.Counted{{T: api.Tuple{num(1), sym("x")}, N: 1}, {T: api.Tuple{num(2)}, N: 1}, {T: api.Tuple{num(3)}, N: 1}}
	b := []api.Counted{{T: api.Tuple{num(1), sym("x")}, N: 1}, {T: api.Tuple{num(3)}, N: -2}}
	c := merge.Sum(merge.Of(a...), merge.Of(b...))
	x, ok := c.Next()
	if !ok || x.N != 2 || !slices.Equal(x.T, api.Tuple{num(1), sym("x")}) {
		t.Fatalf("the first one: %v, %t", x, ok)
	}
	x.T[0] = num(77)
	_ = append(x.T, num(78))
	if a[0].T[0] != num(1) || b[0].T[0] != num(1) || a[0].N != 1 || b[0].N != 1 {
		t.Errorf("what was handed in is now %v, %v", a, b)
	}
	y, _ := c.Next()
	a[1].T[0] = num(66)
	if !slices.Equal(y.T, api.Tuple{num(2)}) {
		t.Errorf("what was told is now %v", y)
	}
}

func TestNilFunctionTakesNothing(t *testing.T) { // P9.2 to P9.4
	w := watch(1, 2)
	tells(t, "Merge", merge.Merge[int](nil, w, w))
	tells(t, "Once", merge.Once[int](nil, w))
	tells(t, "Both", merge.Both[int](nil, w, w))
	tells(t, "Less", merge.Less[int](nil, w, w))
	tells(t, "Only", merge.Only[int](nil, w))
	tells(t, "Turn", merge.Turn[int, string](nil, w))
	asked(t, "a nil function", w, 0)
}
