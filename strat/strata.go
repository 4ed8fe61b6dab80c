package strat

import (
	"iter"
	"math"
	"slices"

	"pedigree/api"
)

// trail is how far a relation has been followed while components are found.
type trail struct {
	next  int // the first of its dependences that has not been followed to its end
	place int // where it was met, counted from 1 among those in no component yet; 0: not met
	low   int // the least place that is known to be reached from it; none is as low once it is in a component
}

// deepest is how many calls are nested at most while components are found: the stack has an end, ways over dependences need not have one.
const deepest = 1000

// components are relations that depend on each other, together; those on which a component depends are ahead of it.
func components(p api.Program, all map[string]*relation) [][]*relation {
	var found [][]*relation
	var open, path []*relation // those in no component yet, and those of them that have not been followed to their ends
	meet := func(r *relation) {
		open, path = append(open, r), append(path, r)
		r.place, r.low = len(open), len(open)
	}
	var follow func(r *relation, depth int) bool // the last one of the path; not to its end if that is too deep
	follow = func(r *relation, depth int) bool {
		for ; r.next < len(r.deps); r.next++ {
			to := all[r.deps[r.next].To]
			if to == nil {
				continue
			}
			if to.place == 0 {
				meet(to)
				if depth == deepest || !follow(to, depth+1) {
					return false
				}
			}
			r.low = min(r.low, to.low)
		}
		path = path[:len(path)-1]
		if r.low == r.place {
			c := slices.Clone(open[r.place-1:])
			for _, x := range c {
				x.low = math.MaxInt
			}
			open = open[:r.place-1]
			found = append(found, c)
		}
		return true
	}
	for _, u := range p.Rules {
		if r := all[u.Head.Pred]; r.place == 0 {
			meet(r)
		}
		for len(path) > 0 {
			follow(path[len(path)-1], 0)
		}
	}
	return found
}

// strata goes through the strata of a program, each behind those that it depends on, and tells of each if it depends on itself through a dependence with Neg.
func strata(p api.Program) iter.Seq2[api.Stratum, bool] {
	return func(yield func(api.Stratum, bool) bool) {
		all := derived(p)
		for _, c := range components(p, all) {
			if !yield(stratum(c, all)) {
				return
			}
		}
	}
}

// stratum makes one of a component.
func stratum(c []*relation, all map[string]*relation) (s api.Stratum, neg bool) {
	for _, r := range c {
		s.Names = append(s.Names, r.name)
		s.Rules = append(s.Rules, r.rules...)
		for _, d := range r.deps {
			to := all[d.To]
			if to == nil {
				continue
			}
			if to.level == 0 { // all others that are reached are in strata
				s.Recursive, neg = true, neg || d.Neg
			}
			s.Level = max(s.Level, to.level)
		}
	}
	s.Level++
	for _, r := range c {
		r.level = s.Level
	}
	slices.Sort(s.Names)
	slices.Sort(s.Rules)
	return s, neg
}
