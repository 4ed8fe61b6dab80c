package merge_test

import (
	"reflect"
	"slices"
	"testing"

	"pedigree/api"
	"pedigree/merge"
)

// What the cursors take from those that they are made of, and what they do with cursors and functions of others.

// counting is a cursor without end.
type counting struct{ n int }

func (c *counting) Next() (int, bool) {
	c.n++
	return c.n, true
}

// fickle is a cursor that has ended now and then.
type fickle struct{ n int }

func (f *fickle) Next() (int, bool) {
	f.n++
	return f.n, f.n%3 != 0
}

// failing is a cursor that panics behind so many elements.
type failing struct{ left int }

func (f *failing) Next() (int, bool) {
	if f.left == 0 {
		panic("no more")
	}
	f.left--
	return 1, true
}

// wrapped is a cursor only if the one in it is.
type wrapped struct{ merge.Cursor[int] }

// makers are all that make a cursor over numbers of two.
var makers = []struct {
	what string
	of   func(a, b merge.Cursor[int]) merge.Cursor[int]
}{
	{"Merge", func(a, b merge.Cursor[int]) merge.Cursor[int] { return merge.Merge(rising, a, b) }},
	{"Once", func(a, b merge.Cursor[int]) merge.Cursor[int] { return merge.Once(rising, a) }},
	{"Both", func(a, b merge.Cursor[int]) merge.Cursor[int] { return merge.Both(rising, a, b) }},
	{"Less", func(a, b merge.Cursor[int]) merge.Cursor[int] { return merge.Less(rising, a, b) }},
	{"Only", func(a, b merge.Cursor[int]) merge.Cursor[int] { return merge.Only(even, a) }},
	{"First", func(a, b merge.Cursor[int]) merge.Cursor[int] { return merge.First(2, a) }},
	{"Turn", func(a, b merge.Cursor[int]) merge.Cursor[int] {
		return merge.Turn(func(x int) int { return x }, a)
	}},
}

func TestNothingIsTakenAhead(t *testing.T) { // P9.1 to P9.4
	a, b := watch(1, 2), watch(1, 2)
	for _, m := range makers {
		if m.of(a, b) == nil {
			t.Errorf("%s is nil", m.what)
		}
	}
	_ = merge.All[int](a)
	asked(t, "a", a, 0)
	asked(t, "b", b, 0)
}

func TestNilAnywhere(t *testing.T) { // P9.1 to P9.4
	for _, m := range makers {
		tells(t, m.what, m.of(nil, nil))
	}
}

func TestEndedIsNotAskedAgain(t *testing.T) { // P9.1 to P9.4
	for _, m := range makers {
		a, b := watch(), watch()
		ended(t, m.what, m.of(a, b))
		if a.asked > 1 || b.asked > 1 {
			t.Errorf("%s: asked %d and %d times what has ended", m.what, a.asked, b.asked)
		}
	}
}

func TestMergeTakes(t *testing.T) { // P9.2
	a, b := watch(1, 4, 5), watch(2, 4)
	c := merge.Merge[int](rising, a, nil, b)
	for i, want := range [][2]int{{1, 1}, {2, 1}, {2, 2}, {3, 2}, {3, 3}} { // an element is taken when the one ahead was returned, and another is wanted
		c.Next()
		asked(t, "a for element "+string(rune('0'+i)), a, want[0])
		asked(t, "b for element "+string(rune('0'+i)), b, want[1])
	}
	if x, ok := c.Next(); x != 0 || ok {
		t.Errorf("behind the last one: %d, %t", x, ok)
	}
	asked(t, "a at the end", a, 4)
	asked(t, "b at the end", b, 3)
}

func TestMergeOfTheUnending(t *testing.T) { // P9.2, P9.4
	a, b := &counting{}, &counting{}
	tells(t, "the first six", merge.First(6, merge.Merge[int](rising, a, b)), 1, 1, 2, 2, 3, 3)
	if a.n != 4 || b.n != 3 {
		t.Errorf("taken: %d and %d", a.n, b.n)
	}
}

func TestOnceTakes(t *testing.T) { // P9.2
	w := watch(10, 11, 20, 21)
	c := merge.Once[int](tens, w)
	c.Next()
	asked(t, "the first", w, 1)
	c.Next()
	asked(t, "the second", w, 3)
	ended(t, "behind it", c)
	asked(t, "at the end", w, 5)
}

func TestBothTakes(t *testing.T) { // P9.3
	a, b := watch(10, 20, 30, 40), watch(20, 21, 25, 31, 50, 60)
	c := merge.Both[int](tens, a, b)
	c.Next()
	asked(t, "a for 20", a, 2)
	asked(t, "b for 20", b, 1) // it stays the head
	c.Next()
	asked(t, "a for 30", a, 3)
	asked(t, "b for 30", b, 4)
	ended(t, "behind it", c)
	asked(t, "a at the end", a, 5)
	asked(t, "b at the end", b, 5) // 50 is the head: nothing else of b is wanted
}

func TestLessTakes(t *testing.T) { // P9.3
	a, b := watch(10, 20, 30, 40), watch(20, 30)
	c := merge.Less[int](tens, a, b)
	c.Next()
	asked(t, "a for 10", a, 1)
	asked(t, "b for 10", b, 1)
	c.Next()
	asked(t, "a for 40", a, 4)
	asked(t, "b for 40", b, 3)
	ended(t, "behind it", c)
	asked(t, "a at the end", a, 5)
	asked(t, "b at the end", b, 3)
}

func TestOtherIsTakenOnlyForHeads(t *testing.T) { // P9.3
	b := watch(1, 2)
	tells(t, "Both of none", merge.Both[int](tens, merge.Of[int](), b))
	tells(t, "Less of none", merge.Less[int](tens, merge.Of[int](), b))
	asked(t, "b", b, 0)
}

func TestBothGoesOnBehindTheOther(t *testing.T) { // P9.3
	a := watch(1, 2, 3)
	tells(t, "b has ended", merge.Both[int](rising, a, merge.Of(1)), 1)
	asked(t, "a to its end", a, 4)
}

func TestOnlyTakes(t *testing.T) { // P9.4
	w := watch(1, 2, 3, 4)
	c := merge.Only[int](even, w)
	c.Next()
	asked(t, "2", w, 2)
	c.Next()
	asked(t, "4", w, 4)
	ended(t, "behind it", c)
	asked(t, "at the end", w, 5)
}

func TestFirstTakes(t *testing.T) { // P9.4
	for _, n := range []int{-1, 0} {
		w := watch(1, 2, 3)
		ended(t, "First of none", merge.First[int](n, w))
		asked(t, "First of none", w, 0)
	}
	w := watch(1, 2, 3)
	c := merge.First[int](2, w)
	c.Next()
	asked(t, "one", w, 1)
	c.Next()
	asked(t, "two", w, 2)
	ended(t, "behind two", c)
	asked(t, "behind two", w, 2)
	tells(t, "of more than there are", merge.First[int](5, w), 3)
	asked(t, "of more than there are", w, 4)
}

func TestTurnTakes(t *testing.T) { // P9.4
	w, turned := watch(1, 2), 0
	c := merge.Turn[int](func(x int) int { turned++; return x }, w)
	c.Next()
	asked(t, "one", w, 1)
	if turned != 1 {
		t.Errorf("turned %d for one", turned)
	}
}

// watchedCounts is a cursor over counted tuples that counts how often it is asked.
type watchedCounts struct {
	merge.Cursor[api.Counted]
	asked int
}

func (w *watchedCounts) Next() (api.Counted, bool) {
	w.asked++
	return w.Cursor.Next()
}

func TestSumTakes(t *testing.T) { // P9.5
	a := &watchedCounts{Cursor: merge.Of(counted(1, 1), counted(2, 1), counted(3, 1), counted(9, 1))}
	b := &watchedCounts{Cursor: merge.Of(counted(1, 1), counted(2, -1), counted(4, 1), counted(5, 1))}
	c := merge.Sum(a, nil, b)
	if a.asked != 0 || b.asked != 0 {
		t.Errorf("asked %d and %d times ahead", a.asked, b.asked)
	}
	for i, want := range [][2]int{{2, 2}, {4, 3}, {4, 4}} { // as far as the heads behind what is told
		c.Next()
		if a.asked != want[0] || b.asked != want[1] {
			t.Errorf("for element %d asked %d and %d times, want %v", i, a.asked, b.asked, want)
		}
	}
}

func TestTakesInTurn(t *testing.T) { // P9.2, P9.4
	w := watch(1, 2, 3, 4, 5, 6)
	a, b := merge.First[int](2, w), merge.Only[int](even, w)
	if x, _ := a.Next(); x != 1 {
		t.Errorf("a: %d", x)
	}
	if x, _ := b.Next(); x != 2 {
		t.Errorf("b: %d", x)
	}
	if x, _ := a.Next(); x != 3 {
		t.Errorf("a: %d", x)
	}
	ended(t, "a", a)
	tells(t, "b", b, 4, 6)
}

func TestSameCursorTwice(t *testing.T) { // P9.2, P9.3
	c := merge.Of(1, 2, 3, 4, 5)
	tells(t, "Merge", merge.Merge(rising, c, c), 1, 2, 3, 4, 5)
	d := merge.Of(1, 2, 3, 4, 5, 6)
	tells(t, "Both", merge.Both(rising, d, d)) // the heads of a are 1, 3, 4 .., that of b is 2 and what is left
	e := merge.Of(counted(1, 1), counted(1, 2), counted(1, 3))
	sums(t, "Sum", merge.Sum(e, e, e), counted(1, 6))
}

func TestEndsForGood(t *testing.T) { // P9.1 to P9.5
	if l := merge.Rest[int](&fickle{}); !slices.Equal(l, []int{1, 2}) {
		t.Errorf("Rest: %v", l)
	}
	want := map[string][]int{"Merge": {1, 1, 2, 2}, "Once": {1, 2}, "Both": {1, 2}, "Less": nil, "Only": {2}, "First": {1, 2}, "Turn": {1, 2}}
	for _, m := range makers {
		tells(t, m.what, m.of(&fickle{}, merge.Of(1, 2)), want[m.what]...)
	}
	tells(t, "First of more", merge.First[int](9, &fickle{}), 1, 2)
	w := watch(1)
	tells(t, "what stands beside false", merge.Turn(func(x int) int { return x }, merge.First[int](9, w)), 1)
}

func TestCursorThatPanics(t *testing.T) { // P9.1 to P9.5
	if l := merge.Rest[int](&failing{2}); !slices.Equal(l, []int{1, 1}) {
		t.Errorf("Rest: %v", l)
	}
	if l := merge.Rest[int](wrapped{}); len(l) != 0 {
		t.Errorf("Rest of a wrapped nil: %v", l)
	}
	var w *watched
	if l := merge.Rest[int](w); len(l) != 0 {
		t.Errorf("Rest of a pointer that is nil: %v", l)
	}
	none := map[string][]int{"Merge": {1}}
	some := map[string][]int{"Merge": {1, 1}, "Once": {1}, "Less": {1, 1}, "First": {1, 1}, "Turn": {1, 1}}
	for _, m := range makers {
		tells(t, m.what+" of nil", m.of(w, &failing{1}), none[m.what]...)
		tells(t, m.what, m.of(&failing{2}, wrapped{}), some[m.what]...)
	}
	sums(t, "Sum", merge.Sum(&watchedCounts{}, merge.Of(counted(1, 1))), counted(1, 1))
}

func TestFunctionThatPanics(t *testing.T) { // P9.2 to P9.4
	n := 0
	third := func() bool {
		n++
		if n > 2 {
			panic("asked too often")
		}
		return true
	}
	compare := func(a, b int) int { third(); return a - b }
	tells(t, "Only", merge.Only(func(int) bool { return third() }, merge.Of(1, 2, 3, 4)), 1, 2)
	n = 0
	tells(t, "Turn", merge.Turn(func(x int) int { third(); return x }, merge.Of(1, 2, 3, 4)), 1, 2)
	n = 0
	tells(t, "Merge", merge.Merge(compare, merge.Of(1, 4), merge.Of(2, 3), nil), 1, 2)
	n = 0
	tells(t, "Once", merge.Once(compare, merge.Of(1, 2, 3, 4)), 1, 2, 3)
	n = 0
	tells(t, "Both", merge.Both(compare, merge.Of(1, 2, 3, 4), merge.Of(1, 2, 3)), 1)
	n = 0
	tells(t, "Less", merge.Less(compare, merge.Of(1, 2, 3, 4), merge.Of(9)), 1, 2)
}

func TestYieldMayPanic(t *testing.T) { // P9.1
	c := merge.Of(1, 2, 3)
	func() {
		defer func() {
			if recover() != "enough" {
				t.Error("the panic of a loop's body is the caller's own")
			}
		}()
		for range merge.All(c) {
			panic("enough")
		}
	}()
	tells(t, "behind it", c, 2, 3)
}

func TestRowOfCursorsIsNotKept(t *testing.T) { // P9.2, P9.5
	l := []merge.Cursor[int]{merge.Of(1, 4), merge.Of(2, 4), nil}
	c := merge.Merge(rising, l...)
	l[0], l[2] = nil, merge.Of(0)
	if x, ok := c.Next(); x != 1 || !ok {
		t.Errorf("the first one: %d, %t", x, ok)
	}
	l[1] = merge.Of(9)
	tells(t, "Merge", c, 2, 4, 4)
	if l[0] != nil {
		t.Error("the row that was handed in was changed")
	}
	k := []merge.Cursor[api.Counted]{merge.Of(counted(1, 1)), merge.Of(counted(1, 1))}
	s := merge.Sum(k...)
	k[0], k[1] = nil, nil
	sums(t, "Sum", s, counted(1, 2))
}

// TestNoFunctionMade has cursors of the type that the functions make: those that none of them made, and nil ones.
func TestNoFunctionMade(t *testing.T) { // P9.1 to P9.5
	of := reflect.TypeOf(merge.Of(1))
	tells(t, "none made it", reflect.New(of.Elem()).Interface().(merge.Cursor[int]))
	c := reflect.Zero(of).Interface().(merge.Cursor[int])
	tells(t, "a nil one", c)
	if l := merge.Rest(c); len(l) != 0 {
		t.Errorf("Rest of a nil one: %v", l)
	}
	for _, m := range makers {
		tells(t, m.what, m.of(c, c))
		typ := reflect.TypeOf(m.of(nil, nil))
		tells(t, m.what+", nil", reflect.Zero(typ).Interface().(merge.Cursor[int]))
	}
}

func TestManyNested(t *testing.T) { // P9.2 to P9.5
	want := map[string][]int{"Merge": {2, 2, 4, 6}, "Once": {2, 4, 6}, "Less": {2, 2, 4, 6}, "Only": {2, 2, 4, 6}, "First": {2, 2}, "Turn": {2, 2, 4, 6}}
	for _, m := range makers {
		c := merge.Of(2, 2, 4, 6)
		for range 1 << 16 {
			c = m.of(c, nil)
		}
		tells(t, m.what, c, want[m.what]...)
	}
	s := merge.Of(counted(1, 1), counted(1, 2), counted(2, 1))
	for range 1 << 16 {
		s = merge.Sum(s)
	}
	sums(t, "Sum", s, counted(1, 3), counted(2, 1))
}

func TestOneOverTheOther(t *testing.T) { // P9.2, P9.4
	c := merge.Of(1, 2, 3, 4)
	for range 2000 {
		c = merge.Only(func(int) bool { return true }, merge.First(9, merge.Merge(rising, nil, c)))
	}
	tells(t, "thousands", c, 1, 2, 3, 4)
}

func TestOfAnyType(t *testing.T) { // P9.1 to P9.4
	type pair struct {
		name string
		of   []int
	}
	byName := func(a, b pair) int { return len(a.name) - len(b.name) }
	a := merge.Of(pair{"x", []int{1}}, pair{"xxx", nil})
	b := merge.Of(pair{"yy", []int{2, 3}}, pair{"yyy", nil})
	names := merge.Turn(func(p pair) string { return p.name }, merge.Once(byName, merge.Merge(byName, a, b)))
	tells(t, "structs", names, "x", "yy", "xxx")
	cursors := merge.Of(merge.Of(1, 2), nil, merge.Of(3)) // cursors are elements, too
	var l []int
	for c := range merge.All(cursors) {
		l = append(l, merge.Rest(c)...)
	}
	if !slices.Equal(l, []int{1, 2, 3}) {
		t.Errorf("cursors over cursors: %v", l)
	}
}
