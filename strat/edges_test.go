package strat_test

import (
	"math"
	"slices"
	"strings"
	"testing"

	"pedigree/api"
	"pedigree/strat"
)

func TestNothing(t *testing.T) { // P16.1, P16.2
	for _, p := range []api.Program{
		{},
		{Decls: []api.Decl{}, Ons: []api.On{}, Rules: []api.Rule{}},
		{Ons: []api.On{{}, {Event: "e"}}},
	} {
		hasNames(t, "Names of nothing", strat.Names(p))
		hasStrata(t, "nothing", p)
		if l := strat.Deps(p); len(l) > 0 {
			t.Errorf("Deps of nothing = %v", l)
		}
		for _, name := range []string{"", "e"} {
			hasNames(t, "Below in nothing", strat.Below(p, name))
			if asks, neg := strat.Asks(p, name, name); asks || neg {
				t.Errorf("Asks in nothing, %q: %v, %v", name, asks, neg)
			}
		}
	}
	zero := api.Program{Decls: make([]api.Decl, 2), Ons: make([]api.On, 2), Rules: make([]api.Rule, 2)}
	zero.Rules[1].Body = make([]api.Literal, 3)
	hasNames(t, "Names of zero parts", strat.Names(zero), "")
	hasStrata(t, "zero parts", zero, one("", 1, false, 0, 1))
	if l := strat.Deps(zero); len(l) > 0 {
		t.Errorf("Deps of zero parts = %v", l)
	}
}

func TestExtensional(t *testing.T) { // P16.2: what is declared has no say in what is extensional
	p := of("a: b c; b: ; e: f")
	p.Decls = []api.Decl{{Name: "a", Base: true}, {Name: "b", Base: true}, {Name: "c"}, {Name: "d"}, {Name: "f", Base: true}, {Name: "f"}}
	hasNames(t, "Names", strat.Names(p), "a", "b", "c", "d", "e", "f")
	hasStrata(t, "declared in other ways", p, one("b", 1, false, 1), one("e", 1, false, 2), one("a", 2, false, 0))
}

// TestIgnored sets what has no say here.
func TestIgnored(t *testing.T) { // P16.1, P16.2
	for _, text := range []string{"a: b; b: c !d; c: c; e:", "a: !b; b: a; c: !c"} {
		p := of(text)
		names, deps, below := strat.Names(p), strat.Deps(p), strat.Below(p, "a")
		l, name, e := strat.Strata(p)
		asks, not := strat.Asks(p, "a", "b")
		x := api.Term{Kind: api.TVar, Name: "a", V: api.Value{Kind: api.VSym, S: "z"}}
		terms := []api.Term{x, {Kind: 9, Name: "z"}, {Kind: api.TAny}, {}}
		for i := range p.Rules {
			r := &p.Rules[i]
			for _, kind := range []api.LitKind{api.LCmp, 0, -1, 4, 5, math.MinInt, math.MaxInt} {
				for _, s := range []string{"a", "b", "z", ""} {
					lit := literal(kind, s)
					lit.Op, lit.A, lit.B = api.CEq, x, x
					r.Body = slices.Insert(r.Body, len(r.Body)/2, lit)
				}
			}
			r.Head.Args = terms
			for k := range r.Body {
				r.Body[k].Atom.Args = terms
				r.Body[k].Op, r.Body[k].A, r.Body[k].B = -3, x, terms[1]
			}
		}
		p.Ons = []api.On{{Event: "z", Params: []api.Param{{Name: "y", Type: 7}}, Acts: []api.Act{{Plus: true, Atom: api.Atom{Pred: "w", Args: terms}}, {Atom: api.Atom{Pred: "a"}}}}}
		p.Decls = []api.Decl{{Name: "a", Base: true, Types: make([]api.Type, 99)}, {Name: "a"}, {Name: "b", Types: []api.Type{-1}}}

		hasNames(t, text, strat.Names(p), names...)
		hasNames(t, text, strat.Below(p, "a"), below...)
		if is := strat.Deps(p); !slices.Equal(is, deps) {
			t.Errorf("Deps of %q = %v instead of %v", text, is, deps)
		}
		if is, neg := strat.Asks(p, "a", "b"); is != asks || neg != not {
			t.Errorf("Asks of %q = %v, %v instead of %v, %v", text, is, neg, asks, not)
		}
		if is, s, f := strat.Strata(p); s != name || f != e || !slices.EqualFunc(is, l, sameStratum) {
			t.Errorf("Strata of %q = %v, %q, %d instead of %v, %q, %d", text, is, s, f, l, name, e)
		}
	}
}

// TestAnyBytes asks about names of all kinds, which need not be those of a text.
func TestAnyBytes(t *testing.T) { // P16.1, P16.2
	l := []string{"", "\x00", "\x00\x00", "A", "X", "a", "a b", "a(", "ab", "not", "\n", "é", "\xc3", "\xff", strings.Repeat("a", 1000), strings.Repeat("a", 1001)}
	slices.Sort(l)
	var chain, circle api.Program
	var levels []api.Stratum
	for i, s := range l {
		r := rule(s)
		if i > 0 {
			r.Body = append(r.Body, pos(l[i-1]))
		}
		chain.Rules = append(chain.Rules, r)
		circle.Rules = append(circle.Rules, rule(s, pos(l[(i+1)%len(l)])))
		levels = append(levels, one(s, i+1, false, i))
	}
	hasStrata(t, "a chain of any bytes", chain, levels...)
	every := make([]int, len(l))
	for i := range every {
		every[i] = i
	}
	hasStrata(t, "a circle of any bytes", circle, several(1, every, l...))
	for i, s := range l {
		hasNames(t, "Below in a chain", strat.Below(chain, s), l[:i]...)
		hasNames(t, "Below in a circle", strat.Below(circle, s), l...)
	}
	circle.Rules = append(circle.Rules, rule("é", neg("\xff")))
	isRefused(t, "a circle of any bytes", circle, "")
}

// TestOrder tells the rules, their literals and the declarations in other orders.
func TestOrder(t *testing.T) { // P16.1, P16.2
	d := drawing(160)
	p := program(t, paths)
	names, deps := strat.Names(p), strat.Deps(p)
	l, _, _ := strat.Strata(p)
	for range 200 {
		q := copied(p)
		places := d.Perm(len(p.Rules))
		for i, k := range places {
			q.Rules[k] = p.Rules[i]
			body := slices.Clone(p.Rules[i].Body)
			d.Shuffle(len(body), func(a, b int) { body[a], body[b] = body[b], body[a] })
			q.Rules[k].Body = body
		}
		d.Shuffle(len(q.Decls), func(a, b int) { q.Decls[a], q.Decls[b] = q.Decls[b], q.Decls[a] })
		hasNames(t, "in another order", strat.Names(q), names...)
		if is := strat.Deps(q); !slices.Equal(is, deps) {
			t.Errorf("Deps in another order = %v", is)
		}
		var want []api.Stratum
		for _, s := range l {
			moved := make([]int, len(s.Rules))
			for i, k := range s.Rules {
				moved[i] = places[k]
			}
			slices.Sort(moved)
			s.Rules = moved
			want = append(want, s)
		}
		hasStrata(t, "in another order", q, want...)
	}
}
