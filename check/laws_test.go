package check_test

import (
	"slices"
	"testing"

	"pedigree/api"
	"pedigree/check"
)

func without[T any](l []T, i int) []T {
	return slices.Delete(slices.Clone(l), i, i+1)
}

func TestOmission(t *testing.T) { // P15.4
	d := drawing(154)
	for n := range 1500 {
		p := d.program()
		if n == 0 {
			p = program(t, sample)
		}
		for i := range p.Ons {
			q := p
			q.Ons = without(p.Ons, i)
			valid(t, "without an event", q)
		}
		for i := range p.Rules {
			q := p
			q.Rules = without(p.Rules, i)
			valid(t, "without a rule", q)
		}
		q := copied(p)
		for range 3 {
			d.Shuffle(len(q.Rules), func(i, k int) { q.Rules[i], q.Rules[k] = q.Rules[k], q.Rules[i] })
			valid(t, "rules in another order", q)
		}
		for len(q.Rules)+len(q.Ons) > 0 {
			if len(q.Rules) > 0 && (len(q.Ons) == 0 || d.Intn(2) == 0) {
				q.Rules = without(q.Rules, d.Intn(len(q.Rules)))
			} else {
				q.Ons = without(q.Ons, d.Intn(len(q.Ons)))
			}
			valid(t, "without some", q)
		}
	}
}

// agrees asks whether the terms of an atom are as its relation is declared.
func agrees(t *testing.T, p api.Program, a api.Atom, known map[string]api.Type) {
	t.Helper()
	d, is := check.Find(p, a.Pred)
	if !is || len(d.Types) != len(a.Args) {
		t.Errorf("%+v is declared as %+v, %v", a, d, is)
		return
	}
	for i, x := range a.Args {
		if x.Kind == api.TConst && api.Type(x.V.Kind) != d.Types[i] || x.Kind == api.TVar && known[x.Name] != d.Types[i] {
			t.Errorf("%+v is declared as %+v", a, d)
		}
	}
}

func TestSafety(t *testing.T) { // P15.5
	d := drawing(155)
	accepted := 0
	for accepted < 2000 {
		p := d.altered(d.program(), d.Intn(4))
		if _, e := check.Program(p); e != api.OK {
			continue
		}
		accepted++
		for _, o := range p.Ons {
			known := map[string]api.Type{}
			for _, q := range o.Params {
				known[q.Name] = q.Type
			}
			for _, a := range o.Acts {
				agrees(t, p, a.Atom, known)
			}
		}
		for _, r := range p.Rules {
			safe(t, p, r)
		}
	}
}

func safe(t *testing.T, p api.Program, r api.Rule) {
	t.Helper()
	vars := check.Vars(r)
	if l := check.Bound(r); !slices.Equal(l, vars) {
		t.Errorf("Bound(%+v) = %q", r, l)
	}
	types, e := check.Types(p, r)
	if e != api.OK || len(types) != len(vars) {
		t.Fatalf("Types(%+v) = %v, %d", r, types, e)
	}
	known := map[string]api.Type{}
	for i, s := range vars {
		if types[i] != api.TInt && types[i] != api.TSym {
			t.Errorf("%s of %+v has no type", s, r)
		}
		known[s] = types[i]
	}
	agrees(t, p, r.Head, known)
	for _, l := range r.Body {
		if l.Kind != api.LCmp {
			agrees(t, p, l.Atom, known)
		}
	}
}

// TestKept asks whether what is handed in stays as it is, and whether what is returned is the caller's own.
func TestKept(t *testing.T) { // rule 4
	d := drawing(156)
	for range 300 {
		p := d.altered(d.program(), d.Intn(3))
		was := copied(p)
		check.Program(p)
		for _, x := range p.Decls {
			found, _ := check.Find(p, x.Name)
			for i := range found.Types {
				found.Types[i] = 9
			}
			_ = append(found.Types, 9)
		}
		for _, r := range p.Rules {
			types, _ := check.Types(p, r)
			for i := range types {
				types[i] = 9
			}
			for _, l := range [][]string{check.Vars(r), check.Bound(r)} {
				for i := range l {
					l[i] = "changed"
				}
			}
			rulesLikeDefined(t, p, r)
		}
		if !alike(p, was) {
			t.Fatalf("%+v became %+v", was, p)
		}
	}
}

// TestRoom asks whether a row that has room behind its end is left as it is there.
func TestRoom(t *testing.T) { // rule 4
	all := []api.Type{1, 2, 1}
	p := api.Program{Decls: []api.Decl{view("v", all[:2]...), view("w", all...)}}
	p.Decls[0].Types = all[:2]
	d, _ := check.Find(p, "v")
	_ = append(d.Types, 9)
	if all[2] != 1 {
		t.Error("Find hands out the program's own row")
	}
}

// TestAgain asks the same again and again: nothing hangs on the order of maps.
func TestAgain(t *testing.T) { // rule 5
	p := program(t, "base b(int, sym). base c(sym, int). view v(int). v(X) :- b(X, S), c(X, S), c(S, X), b(Y, Z), X = Z, not b(W, U).")
	for range 100 {
		refused(t, "again", p, ruleAt(0), 156)
		if l, e := check.Types(p, p.Rules[0]); e != 156 || l != nil {
			t.Errorf("Types = %v, %d", l, e)
		}
	}
}

func TestLong(t *testing.T) { // programs of many parts are gone through in time
	many := 1 << 17
	r := api.Rule{Head: atom("v")}
	var p api.Program
	for i := range many {
		r.Body = append(r.Body, pos(atom(named("d", i), variable(named("X", i)))))
		p.Decls = append(p.Decls, base(named("d", i), 1))
	}
	if l := check.Vars(r); len(l) != many {
		t.Errorf("%d variables", len(l))
	}
	if l := check.Bound(r); len(l) != many {
		t.Errorf("%d are bound", len(l))
	}
	if l, e := check.Types(p, r); e != 0 || len(l) != many || l[many-1] != 1 {
		t.Errorf("%d types, %d", len(l), e)
	}
	refused(t, "many declarations", p, api.Clause{}, 3)
}
