package tuple

import (
	"iter"
	"slices"

	"pedigree/api"
	"pedigree/value"
)

// CheckPattern tells whether a pattern may be.
func CheckPattern(p []api.Term) api.Errno {
	if len(p) > api.MaxArity {
		return api.ErrPattern
	}
	for _, x := range p {
		if !fits(x) {
			return api.ErrPattern
		}
	}
	return api.OK
}

// fits tells whether a term may stand in a pattern.
func fits(x api.Term) bool {
	switch x.Kind {
	case api.TConst:
		return x.Name == "" && value.Check(x.V) == api.OK
	case api.TVar:
		return x.Name != "" && len(x.Name) <= api.MaxName && x.V == api.Value{}
	case api.TAny:
		return x.Name == "" && x.V == api.Value{}
	}
	return false
}

// Match are the bindings of a tuple that matches.
func Match(p []api.Term, t api.Tuple) ([]api.Bound, bool) {
	if CheckPattern(p) != api.OK {
		return nil, false
	}
	return match(p, t)
}

// Select are the tuples of a list that match, as they stand in it.
func Select(l []api.Tuple, p []api.Term) []api.Tuple {
	if CheckPattern(p) != api.OK {
		return nil
	}
	return copies(matching(l, p))
}

// matching yields the tuples that match a pattern that may be.
func matching(l []api.Tuple, p []api.Term) iter.Seq[api.Tuple] {
	return func(yield func(api.Tuple) bool) {
		for _, t := range l {
			if _, ok := match(p, t); ok && !yield(t) {
				return
			}
		}
	}
}

// match is Match for a pattern that may be.
func match(p []api.Term, t api.Tuple) ([]api.Bound, bool) {
	if len(p) != len(t) {
		return nil, false
	}
	var bounds []api.Bound
	for i, x := range p {
		ok := true
		switch x.Kind {
		case api.TConst:
			ok = x.V == t[i]
		case api.TVar:
			bounds, ok = bind(bounds, x.Name, t[i])
		}
		if !ok {
			return nil, false
		}
	}
	return bounds, true
}

// bind puts a name with its value behind the others, unless it is bound already: then it tells whether it is so to v.
func bind(bounds []api.Bound, name string, v api.Value) ([]api.Bound, bool) {
	i := slices.IndexFunc(bounds, func(b api.Bound) bool { return b.Name == name })
	if i < 0 {
		return append(bounds, api.Bound{Name: name, V: v}), true
	}
	return bounds, bounds[i].V == v
}
