package tuple

import (
	"iter"
	"slices"
)

// list is a sorted list: by compare, which answers -1, 0 or 1, each element is less than the next.
type list[E any] struct {
	compare func(a, b E) int
	elems   []E
}

// listOf is the list of elements that come in whatever order, and however often. What it is given stays as it is.
func listOf[E any](compare func(a, b E) int, elems []E) list[E] {
	sorted := slices.Clone(elems)
	slices.SortFunc(sorted, compare)
	sorted = slices.CompactFunc(sorted, func(a, b E) bool { return compare(a, b) == 0 })
	return list[E]{compare, sorted}
}

// side tells which of two lists have an element: the numbers are those that compare answers.
type side int

const (
	left  side = iota - 1 // the first list alone
	both                  // both of them
	right                 // the second list alone
)

// merge yields the elements of two lists, rising, each once, with the side where it is.
func merge[E any](a, b list[E]) iter.Seq2[E, side] {
	return func(yield func(E, side) bool) {
		x, y := a.elems, b.elems
		for len(x) > 0 || len(y) > 0 {
			s := left
			switch {
			case len(x) == 0:
				s = right
			case len(y) > 0:
				s = side(a.compare(x[0], y[0]))
			}
			var e E
			if s != left {
				e, y = y[0], y[1:]
			}
			if s != right {
				e, x = x[0], x[1:]
			}
			if !yield(e, s) {
				return
			}
		}
	}
}

// pick is the list of those elements of two lists that are on one of the sides.
func pick[E any](a, b list[E], sides ...side) list[E] {
	out := list[E]{compare: a.compare}
	for e, s := range merge(a, b) {
		if slices.Contains(sides, s) {
			out.elems = append(out.elems, e)
		}
	}
	return out
}

// all yields the elements, rising.
func (l list[E]) all() iter.Seq[E] {
	return slices.Values(l.elems)
}
