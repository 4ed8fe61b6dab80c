package tuple

import (
	"iter"

	"pedigree/api"
)

// CheckRel tells whether tuples are a relation.
func CheckRel(l []api.Tuple) api.Errno {
	if len(l) > api.MaxRel {
		return api.ErrMany
	}
	for _, t := range l {
		if e := Check(t); e != api.OK {
			return e
		}
	}
	for i := 1; i < len(l); i++ {
		if len(l[i-1]) != len(l[i]) || Compare(l[i-1], l[i]) >= 0 {
			return api.ErrRel
		}
	}
	return api.OK
}

// Sorted are tuples, rising, each once.
func Sorted(l ...api.Tuple) []api.Tuple {
	return copies(rising(l).all())
}

// Place is how many of a list, rising or not, are below a tuple, and whether it is there.
func Place(l []api.Tuple, t api.Tuple) (int, bool) {
	below, there := 0, false
	for _, x := range l {
		switch Compare(x, t) {
		case -1:
			below++
		case 0:
			there = true
		}
	}
	return below, there
}

// Union are the tuples of a or b.
func Union(a, b []api.Tuple) []api.Tuple {
	return copies(pick(rising(a), rising(b), left, both, right).all())
}

// Minus are the tuples of a that are not in b.
func Minus(a, b []api.Tuple) []api.Tuple {
	return copies(pick(rising(a), rising(b), left).all())
}

// Both are the tuples that are in a and in b.
func Both(a, b []api.Tuple) []api.Tuple {
	return copies(pick(rising(a), rising(b), both).all())
}

// Apply takes the tuples of minus out of l and puts those of plus in: one of both is in.
func Apply(l, plus, minus []api.Tuple) []api.Tuple {
	kept := pick(rising(l), rising(minus), left)
	return copies(pick(rising(plus), kept, left, both, right).all())
}

// Diff is what came on the way from old to now, and what went.
func Diff(old, now []api.Tuple) ([]api.Tuple, []api.Tuple) {
	is, was := rising(now), rising(old)
	return copies(pick(is, was, left).all()), copies(pick(is, was, right).all())
}

// rising is the sorted list of tuples.
func rising(l []api.Tuple) list[api.Tuple] {
	return listOf(Compare, l)
}

// copies are tuples that an iterator yields, each in memory of its own: what is answered shares none with what came in.
func copies(tuples iter.Seq[api.Tuple]) []api.Tuple {
	var out []api.Tuple
	for t := range tuples {
		out = append(out, append(api.Tuple{}, t...))
	}
	return out
}
