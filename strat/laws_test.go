package strat_test

import (
	"math"
	"reflect"
	"slices"
	"testing"

	"pedigree/api"
	"pedigree/strat"
)

// P16.3 to P16.6: the consequences, on every small program and on drawn ones.

// accepted calls a function with programs that have strata, and with these.
func accepted(t *testing.T, seed int64, each func(p api.Program, l []api.Stratum)) {
	t.Helper()
	n := 0
	ask := func(p api.Program) {
		l, name, e := strat.Strata(p)
		if e == api.OK {
			n++
			each(p, l)
		} else if len(l) > 0 || e != api.ErrStrat || !slices.Contains(strat.Names(p), name) {
			t.Fatalf("Strata of %+v = %v, %q, %d", p, l, name, e)
		}
		if t.Failed() {
			t.Fatalf("of %+v: %v", p, l)
		}
	}
	everySmall(ask)
	drawn(seed, 8000, 9, func(_ *drawer, p api.Program) { ask(p) })
	if n < 8000 {
		t.Errorf("%d programs have strata", n)
	}
}

func headsOf(p api.Program) map[string]bool {
	heads := map[string]bool{}
	for _, u := range p.Rules {
		heads[u.Head.Pred] = true
	}
	return heads
}

// strataOf are the places of the strata of each name.
func strataOf(l []api.Stratum) map[string][]int {
	in := map[string][]int{}
	for i, s := range l {
		for _, name := range s.Names {
			in[name] = append(in[name], i)
		}
	}
	return in
}

func TestPartition(t *testing.T) { // P16.3
	accepted(t, 163, func(p api.Program, l []api.Stratum) {
		heads, in := headsOf(p), strataOf(l)
		for _, name := range strat.Names(p) {
			if n := len(in[name]); n != 1 && heads[name] || n != 0 && !heads[name] {
				t.Errorf("%q is in %d strata", name, n)
			}
		}
		times := make([]int, len(p.Rules))
		for i, s := range l {
			if len(s.Names) == 0 || !slices.IsSorted(s.Names) || !slices.IsSorted(s.Rules) {
				t.Errorf("a stratum of %q, %v", s.Names, s.Rules)
			}
			for _, k := range s.Rules {
				times[k]++
				if !slices.Equal(in[p.Rules[k].Head.Pred], []int{i}) {
					t.Errorf("rule %d is not in the stratum of its head", k)
				}
			}
		}
		for i, n := range times {
			if n != 1 {
				t.Errorf("rule %d is in %d strata", i, n)
			}
		}
	})
}

func TestBottomUp(t *testing.T) { // P16.4
	accepted(t, 164, func(p api.Program, l []api.Stratum) {
		heads, in := headsOf(p), strataOf(l)
		for i, s := range l {
			if i > 0 && (l[i-1].Level > s.Level || l[i-1].Level == s.Level && l[i-1].Names[0] >= s.Names[0]) {
				t.Errorf("stratum %d is not behind the one before", i)
			}
			least := 1
			for _, k := range s.Rules {
				for _, d := range strat.Deps(api.Program{Rules: p.Rules[k : k+1]}) {
					if !heads[d.To] {
						continue
					}
					at := in[d.To][0]
					if at > i || at == i && d.Neg {
						t.Errorf("rule %d of stratum %d asks %v of stratum %d", k, i, d, at)
					}
					if at < i {
						least = max(least, l[at].Level+1)
					}
				}
			}
			if s.Level != least {
				t.Errorf("stratum %d has the level %d instead of %d", i, s.Level, least)
			}
		}
	})
}

func TestMinimality(t *testing.T) { // P16.5
	accepted(t, 165, func(p api.Program, l []api.Stratum) {
		for _, s := range l {
			for _, a := range s.Names {
				for _, b := range s.Names {
					if asks, neg := strat.Asks(p, a, b); asks != s.Recursive || neg {
						t.Errorf("%q asks %q: %v, %v", a, b, asks, neg)
					}
				}
			}
			if len(s.Names) > 1 && !s.Recursive {
				t.Errorf("%q are not recursive", s.Names)
			}
		}
	})
}

// assigned is whether there is an assignment of relations to strata in which negation is only of lower ones, and nothing of higher ones.
func assigned(names []string, deps []api.Dep, in map[string]int) bool {
	if len(in) < len(names) {
		name := names[len(in)]
		for i := range names {
			in[name] = i
			if assigned(names, deps, in) {
				return true
			}
			delete(in, name)
		}
		return false
	}
	return !slices.ContainsFunc(deps, func(d api.Dep) bool {
		return in[d.To] > in[d.From] || d.Neg && in[d.To] == in[d.From]
	})
}

func TestRejection(t *testing.T) { // P16.6
	seen := map[bool]int{}
	ask := func(p api.Program) {
		_, name, e := strat.Strata(p)
		is := assigned(strat.Names(p), strat.Deps(p), map[string]int{})
		seen[is]++
		if is != (e == api.OK) {
			t.Fatalf("%+v: %q, %d, though an assignment is %v", p, name, e, is)
		}
		if _, neg := strat.Asks(p, name, name); neg != (e != api.OK) {
			t.Fatalf("%+v: %q, %d, though it asks itself: %v", p, name, e, neg)
		}
	}
	everySmall(ask)
	drawn(166, 3000, 5, func(_ *drawer, p api.Program) { ask(p) })
	if seen[true] < 5000 || seen[false] < 5000 {
		t.Errorf("too few of a kind: %v", seen)
	}
}

// TestKept asks whether what is handed in stays as it is, and whether what is returned is the caller's own.
func TestKept(t *testing.T) { // rule 4
	drawn(167, 2000, 6, func(_ *drawer, p api.Program) {
		was := copied(p)
		var lists [][]string
		lists = append(lists, strat.Names(p))
		for _, name := range strat.Names(p) {
			lists = append(lists, strat.Below(p, name))
			strat.Asks(p, name, name)
		}
		deps := strat.Deps(p)
		l, _, _ := strat.Strata(p)
		whole := make([]api.Stratum, len(l))
		for i, s := range l {
			whole[i] = s
			whole[i].Names, whole[i].Rules = slices.Clone(s.Names), slices.Clone(s.Rules)
		}
		for i, s := range l { // nor do two lists of one answer share anything
			_, _ = append(s.Names, "changed"), append(s.Rules, -1)
			if !slices.EqualFunc(l, whole, sameStratum) {
				t.Fatalf("%v became %v", whole, l)
			}
			for k := range s.Names {
				s.Names[k] = "changed"
			}
			for k := range s.Rules {
				s.Rules[k] = -1
			}
			whole[i].Names, whole[i].Rules = slices.Clone(s.Names), slices.Clone(s.Rules)
			if !slices.EqualFunc(l, whole, sameStratum) {
				t.Fatalf("%v became %v", whole, l)
			}
		}
		for _, s := range lists {
			for i := range s {
				s[i] = "changed"
			}
			_ = append(s, "changed")
		}
		for i := range deps {
			deps[i] = api.Dep{From: "changed"}
		}
		if !reflect.DeepEqual(p, was) {
			t.Fatalf("%+v became %+v", was, p)
		}
		likeDefined(t, p)
	})
}

// TestAgain asks the same again and again: nothing hangs on the order of maps, nor on what was asked before.
func TestAgain(t *testing.T) { // rule 5
	good := program(t, paths)
	bad := of("b: !b; a: c !d; d: a; c: d; e: !e")
	first, _, _ := strat.Strata(good)
	names, below, deps := strat.Names(good), strat.Below(good, "top"), strat.Deps(good)
	for range 200 {
		hasStrata(t, "again", good, first...)
		isRefused(t, "again", bad, "a")
		hasNames(t, "Names again", strat.Names(good), names...)
		hasNames(t, "Below again", strat.Below(good, "top"), below...)
		if l := strat.Deps(good); !slices.Equal(l, deps) {
			t.Errorf("Deps again = %v", l)
		}
	}
}

// TestExtremes asks about the kinds that numbers can be at most and at least.
func TestExtremes(t *testing.T) {
	for _, kind := range []api.LitKind{math.MinInt, math.MinInt32, -2, -1, 0, 3, 4, 1 + 1<<32, 2 + 1<<32, math.MaxInt} {
		p := api.Program{Rules: []api.Rule{rule("a", literal(kind, "a"))}}
		hasNames(t, "Names", strat.Names(p), "a")
		hasStrata(t, "an unknown kind", p, one("a", 1, false, 0))
		if l := strat.Deps(p); len(l) > 0 {
			t.Errorf("kind %d: %v", kind, l)
		}
	}
}
