package strat

import (
	"strings"

	"pedigree/api"
)

// relation is one that is not extensional.
type relation struct {
	name  string
	rules []int     // the places of the rules whose head it is
	deps  []api.Dep // those of these rules
	level int       // its stratum's; 0 while it is in none
	trail
}

// derived are the relations of a program that are not extensional, by their names.
func derived(p api.Program) map[string]*relation {
	all := map[string]*relation{}
	for i, u := range p.Rules {
		name := u.Head.Pred
		if all[name] == nil {
			all[name] = &relation{name: name}
		}
		r := all[name]
		r.rules = append(r.rules, i)
		r.deps = append(r.deps, dependences(u)...)
	}
	return all
}

// dependences are those of a rule, one for each literal that names a relation.
func dependences(u api.Rule) []api.Dep {
	var l []api.Dep
	for _, b := range u.Body {
		if b.Kind == api.LPos || b.Kind == api.LNeg {
			l = append(l, api.Dep{From: u.Head.Pred, To: b.Atom.Pred, Neg: b.Kind == api.LNeg})
		}
	}
	return l
}

// compare is by From, then by To; those without Neg are ahead of those with it.
func compare(a, b api.Dep) int {
	switch {
	case a == b:
		return 0
	case a.From != b.From:
		return strings.Compare(a.From, b.From)
	case a.To != b.To:
		return strings.Compare(a.To, b.To)
	case b.Neg:
		return -1
	}
	return 1
}

// reached is what a relation depends on, directly or not, as dependences of its own: with Neg if one of those that lead there has it.
func reached(p api.Program, from string) []api.Dep {
	all := derived(p)
	times := map[api.Dep]int{}
	l := []api.Dep{{To: from}}
	for i := 0; i < len(l); i++ {
		r := all[l[i].To]
		if r == nil {
			continue
		}
		for _, d := range r.deps {
			way := api.Dep{From: from, To: d.To, Neg: l[i].Neg || d.Neg}
			times[way]++
			if times[way] == 1 {
				l = append(l, way)
			}
		}
	}
	return l[1:]
}
