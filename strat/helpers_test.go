package strat_test

import (
	"math/rand"
	"slices"
	"strings"
	"testing"

	"pedigree/api"
	"pedigree/parse"
	"pedigree/strat"
)

func program(t *testing.T, text string) api.Program {
	t.Helper()
	p, at, e := parse.Program(text)
	if e != api.OK {
		t.Fatalf("%q: %d at %d", text, e, at)
	}
	return p
}

func literal(kind api.LitKind, name string) api.Literal {
	return api.Literal{Kind: kind, Atom: api.Atom{Pred: name}}
}

func pos(name string) api.Literal { return literal(api.LPos, name) }

func neg(name string) api.Literal { return literal(api.LNeg, name) }

func rule(head string, body ...api.Literal) api.Rule {
	return api.Rule{Head: api.Atom{Pred: head}, Body: body}
}

// of makes a program of rules like "a: b !c", with ; between two of them. What stands behind a ! is in an LNeg; ! alone is an empty name there.
func of(text string) api.Program {
	var p api.Program
	for s := range strings.SplitSeq(text, ";") {
		head, body, is := strings.Cut(s, ":")
		if !is {
			continue
		}
		r := rule(strings.TrimSpace(head))
		for _, name := range strings.Fields(body) {
			if after, not := strings.CutPrefix(name, "!"); not {
				r.Body = append(r.Body, neg(after))
			} else {
				r.Body = append(r.Body, pos(name))
			}
		}
		p.Rules = append(p.Rules, r)
	}
	return p
}

func sameStratum(a, b api.Stratum) bool {
	return slices.Equal(a.Names, b.Names) && a.Level == b.Level && a.Recursive == b.Recursive && slices.Equal(a.Rules, b.Rules)
}

// hasStrata asks for all strata of a program.
func hasStrata(t *testing.T, what string, p api.Program, want ...api.Stratum) {
	t.Helper()
	if l, name, e := strat.Strata(p); e != api.OK || name != "" || !slices.EqualFunc(l, want, sameStratum) {
		t.Errorf("Strata of %q = %v, %q, %d instead of %v", what, l, name, e, want)
	}
}

// isRefused asks for the name that is told.
func isRefused(t *testing.T, what string, p api.Program, want string) {
	t.Helper()
	if l, name, e := strat.Strata(p); e != api.ErrStrat || name != want || l != nil {
		t.Errorf("Strata of %q = %v, %q, %d instead of %q", what, l, name, e, want)
	}
}

func hasNames(t *testing.T, what string, l []string, want ...string) {
	t.Helper()
	if !slices.Equal(l, want) {
		t.Errorf("%s: %q instead of %q", what, l, want)
	}
}

// copied is a program that shares nothing with the one it was made of.
func copied(p api.Program) api.Program {
	atom := func(a api.Atom) api.Atom {
		a.Args = slices.Clone(a.Args)
		return a
	}
	q := api.Program{Decls: slices.Clone(p.Decls), Ons: slices.Clone(p.Ons), Rules: slices.Clone(p.Rules)}
	for i := range q.Decls {
		q.Decls[i].Types = slices.Clone(q.Decls[i].Types)
	}
	for i := range q.Ons {
		q.Ons[i].Params = slices.Clone(q.Ons[i].Params)
		q.Ons[i].Acts = slices.Clone(q.Ons[i].Acts)
		for k := range q.Ons[i].Acts {
			q.Ons[i].Acts[k].Atom = atom(q.Ons[i].Acts[k].Atom)
		}
	}
	for i := range q.Rules {
		q.Rules[i].Head = atom(q.Rules[i].Head)
		q.Rules[i].Body = slices.Clone(q.Rules[i].Body)
		for k := range q.Rules[i].Body {
			q.Rules[i].Body[k].Atom = atom(q.Rules[i].Body[k].Atom)
		}
	}
	return q
}

type drawer struct {
	*rand.Rand
}

func drawing(seed int64) *drawer { return &drawer{rand.New(rand.NewSource(seed))} }

func oneOf[T any](d *drawer, l ...T) T { return l[d.Intn(len(l))] }

// term draws one of any kind, which need not be well-formed.
func (d *drawer) term() api.Term {
	return api.Term{
		Kind: api.TermKind(d.Intn(5)),
		Name: oneOf(d, "", "X", "a", "\xff"),
		V:    api.Value{Kind: api.VKind(d.Intn(4)), N: int64(d.Intn(3)), S: oneOf(d, "", "s")},
	}
}

func (d *drawer) atom(names []string) api.Atom {
	a := api.Atom{Pred: oneOf(d, names...)}
	for range d.Intn(3) {
		a.Args = append(a.Args, d.term())
	}
	return a
}

// program draws one of some names, with at most so many rules, in which anything else may be set as well. Of a hundred literals so many are with Neg, and so many name what stands behind the head's name, or the head's.
func (d *drawer) program(names []string, most, neg, back int) api.Program {
	var p api.Program
	for range d.Intn(4) {
		p.Decls = append(p.Decls, api.Decl{Name: oneOf(d, append(names, "d")...), Base: d.Intn(2) == 0, Types: []api.Type{api.Type(d.Intn(4))}})
	}
	for range d.Intn(2) {
		p.Ons = append(p.Ons, api.On{Event: "e", Acts: []api.Act{{Atom: d.atom([]string{"e", "f"})}}})
	}
	for range d.Intn(most + 1) {
		i := d.Intn(len(names))
		u := api.Rule{Head: d.atom(names[i : i+1])}
		for range d.Intn(4) {
			l := api.Literal{Kind: api.LPos, Atom: d.atom(names[:max(i, 1)])}
			if d.Intn(100) < back {
				l.Atom = d.atom(names[i:])
			}
			if d.Intn(100) < neg {
				l.Kind = api.LNeg
			}
			if d.Intn(5) == 0 {
				l.Kind, l.Op = api.LitKind(d.Intn(6)-1), api.CmpOp(d.Intn(8))
				l.A, l.B = d.term(), d.term()
			}
			u.Body = append(u.Body, l)
		}
		p.Rules = append(p.Rules, u)
	}
	return p
}

// drawn calls a function with so many programs of so many relations at most, of all kinds.
func drawn(seed int64, times, most int, each func(d *drawer, p api.Program)) {
	d := drawing(seed)
	all := []string{"", "a", "a\x00", "aa", "b", "c", "d", "\x80", "\xff"}
	for i := range times {
		d.Shuffle(len(all), func(a, b int) { all[a], all[b] = all[b], all[a] })
		n := 1 + i%most
		each(d, d.program(slices.Clone(all[:n]), 2*n, i%5*8, i%7*7))
	}
}
