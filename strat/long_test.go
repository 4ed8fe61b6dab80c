package strat_test

import (
	"runtime/debug"
	"slices"
	"strconv"
	"testing"

	"pedigree/api"
	"pedigree/strat"
)

// Programs of many parts are gone through in time, and however long the ways over their dependences are, there is stack enough.

const many = 1 << 17

// named are names that rise as their numbers do.
func named(i int) string { return "n" + strconv.Itoa(many+i) }

func shortStack(t *testing.T) {
	was := debug.SetMaxStack(1 << 20)
	t.Cleanup(func() { debug.SetMaxStack(was) })
}

// chain is each depending on the next one, and on some more; the rules are as they stand, or the last one first.
func chain(upward bool, more ...api.Literal) api.Program {
	var p api.Program
	for i := range many {
		p.Rules = append(p.Rules, rule(named(i), append([]api.Literal{pos(named(i + 1))}, more...)...))
	}
	if upward {
		slices.Reverse(p.Rules)
	}
	return p
}

func TestLongChain(t *testing.T) { // P16.2
	shortStack(t)
	for _, upward := range []bool{false, true} {
		p := chain(upward, pos("x"), neg("y"))
		p.Rules = append(p.Rules, rule("y"))
		l, name, e := strat.Strata(p)
		if len(l) != many+1 || name != "" || e != api.OK {
			t.Fatalf("%d strata, %q, %d", len(l), name, e)
		}
		for i, s := range l[1:] {
			place := many - 1 - i
			if upward {
				place = i
			}
			if !sameStratum(s, one(named(many-1-i), i+2, false, place)) {
				t.Fatalf("stratum %d is %v", i+1, s)
			}
		}
		if below := strat.Below(p, named(0)); len(below) != many+2 {
			t.Errorf("%d are below", len(below))
		}
		if asks, neg := strat.Asks(p, named(0), named(many)); !asks || neg {
			t.Errorf("the ends of a chain: %v, %v", asks, neg)
		}
		if n := len(strat.Names(p)); n != many+3 {
			t.Errorf("%d names", n)
		}
		if n := len(strat.Deps(p)); n != 3*many {
			t.Errorf("%d dependences", n)
		}
	}
}

func TestLongCircle(t *testing.T) { // P16.2
	shortStack(t)
	for _, upward := range []bool{false, true} {
		p := chain(upward)
		back := rule(named(many), pos(named(many/2)), pos(named(0)))
		p.Rules = append(p.Rules, back)
		l, _, e := strat.Strata(p)
		if e != api.OK || len(l) != 1 || len(l[0].Names) != many+1 || len(l[0].Rules) != many+1 || l[0].Level != 1 || !l[0].Recursive {
			t.Errorf("a circle has %d strata, %d", len(l), e)
		}
		back.Body[1] = neg(named(0))
		isRefused(t, "a long circle", p, named(0))
		if _, neg := strat.Asks(p, named(many-1), named(many-1)); !neg {
			t.Errorf("a circle that asks itself without negation")
		}
		back.Body[1] = pos("nobody")
		l, _, e = strat.Strata(p)
		if e != api.OK || len(l) != many/2+1 || l[0].Names[0] != named(many/2) || len(l[0].Names) != many/2+1 || l[many/2].Level != many/2+1 {
			t.Errorf("a circle below a chain has %d strata, %d", len(l), e)
		}
	}
}

// TestLongLadder goes to a chain and back again, many times: no relation can be done with before all others are met.
func TestLongLadder(t *testing.T) { // P16.2
	shortStack(t)
	var p api.Program
	for i := range many {
		r := rule(named(i), pos(named(max(i-1, 0))), pos("side"), pos(named(min(i+1, many-1))), pos(named(i/2)))
		p.Rules = append(p.Rules, r)
	}
	p.Rules = append(p.Rules, rule("side"))
	l, _, e := strat.Strata(p)
	if e != api.OK || len(l) != 2 || len(l[1].Names) != many || l[1].Level != 2 {
		t.Errorf("%d strata, %d", len(l), e)
	}
}

func TestWide(t *testing.T) { // P16.1, P16.2
	shortStack(t)
	var p api.Program
	whole := rule("a")
	for i := range many {
		whole.Body = append(whole.Body, pos(named(i)), neg(named(i/2)))
		p.Rules = append(p.Rules, rule(named(i), pos("z")), rule(named(i/2), neg("z")))
	}
	p.Rules = append(p.Rules, whole)
	l, _, e := strat.Strata(p)
	if e != api.OK || len(l) != many+1 || !sameStratum(l[many], one("a", 2, false, 2*many)) {
		t.Errorf("%d strata, %d", len(l), e)
	}
	if n := len(strat.Below(p, "a")); n != many+1 {
		t.Errorf("%d are below", n)
	}
	if n := len(strat.Deps(p)); n != 3*many {
		t.Errorf("%d dependences", n)
	}
	if asks, neg := strat.Asks(p, "a", "z"); !asks || !neg {
		t.Errorf("over many: %v, %v", asks, neg)
	}
}

// TestSame has many rules and literals of one relation.
func TestSame(t *testing.T) { // P16.1, P16.2
	var p api.Program
	every := make([]int, many)
	for i := range many {
		p.Rules = append(p.Rules, rule("a", pos("a"), pos("b"), pos("a")))
		every[i] = i
	}
	hasStrata(t, "one rule many times", p, one("a", 1, true, every...))
	hasNames(t, "Below", strat.Below(p, "a"), "a", "b")
	if l := strat.Deps(p); !slices.Equal(l, []api.Dep{{From: "a", To: "a"}, {From: "a", To: "b"}}) {
		t.Errorf("Deps = %v", l)
	}
}
