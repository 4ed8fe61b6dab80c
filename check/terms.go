package check

import (
	"iter"

	"pedigree/api"
	"pedigree/print"
	"pedigree/value"
)

// spot is where a term stands in a rule.
type spot struct {
	pred string      // the atom's
	arg  int         // which one of the atom's terms; -1 outside of atoms
	kind api.LitKind // the literal's; 0 in the head
}

// terms goes through all terms of a rule, in the order of its text.
func terms(r api.Rule) iter.Seq2[spot, api.Term] {
	return func(yield func(spot, api.Term) bool) {
		if !each(r.Head, 0, yield) {
			return
		}
		for _, l := range r.Body {
			side := spot{arg: -1, kind: l.Kind}
			if !each(l.Atom, l.Kind, yield) || !yield(side, l.A) || !yield(side, l.B) {
				return
			}
		}
	}
}

// each hands on the terms of an atom, and tells if more are wanted.
func each(a api.Atom, kind api.LitKind, yield func(spot, api.Term) bool) bool {
	for i, t := range a.Args {
		if !yield(spot{a.Pred, i, kind}, t) {
			return false
		}
	}
	return true
}

// variables goes through the variables of a rule, each where it stands first.
func variables(r api.Rule) iter.Seq[string] {
	return func(yield func(string) bool) {
		times := map[string]int{}
		for _, t := range terms(r) {
			if t.Kind != api.TVar {
				continue
			}
			times[t.Name]++
			if times[t.Name] == 1 && !yield(t.Name) {
				return
			}
		}
	}
}

func wellFormed(t api.Term) bool {
	none := api.Value{}
	switch t.Kind {
	case api.TVar:
		return print.Var(t.Name) && t.V == none
	case api.TConst:
		return t.Name == "" && value.Check(t.V) == api.OK
	case api.TAny:
		return t.Name == "" && t.V == none
	}
	return false
}

// definite tells if a term is well-formed and stands for one value.
func definite(t api.Term) bool {
	return wellFormed(t) && t.Kind != api.TAny
}

// typeOf is the type of a constant, or that of a variable among those that are known; 0 if there is none.
func typeOf(t api.Term, known map[string]api.Type) api.Type {
	if t.Kind == api.TVar {
		return known[t.Name]
	}
	is, _ := value.Type(t.V)
	return is
}
