package check

import "pedigree/api"

// relations are declarations by their names.
type relations map[string]api.Decl

// declared are the declarations that a program has first for each name.
func declared(p api.Program) relations {
	r := relations{}
	for _, d := range p.Decls {
		if _, is := r[d.Name]; !is {
			r[d.Name] = d
		}
	}
	return r
}

func isType(t api.Type) bool {
	return t == api.TInt || t == api.TSym
}

// at is the type with which a spot is declared, or 0.
func (r relations) at(s spot) api.Type {
	l := r[s.pred].Types
	if s.arg < 0 || s.arg >= len(l) || !isType(l[s.arg]) {
		return 0
	}
	return l[s.arg]
}

// types are those that the variables of a rule have in its atoms, and whether each has but one.
func (r relations) types(u api.Rule) (map[string]api.Type, bool) {
	types := map[string]api.Type{}
	for s, t := range terms(u) {
		is := r.at(s)
		if t.Kind != api.TVar || is == 0 {
			continue
		}
		if was := types[t.Name]; was != 0 && was != is {
			return nil, false
		}
		types[t.Name] = is
	}
	return types, true
}
