package check_test

import (
	"strings"
	"testing"

	"pedigree/api"
	"pedigree/check"
)

// sample is a valid program with parts of every kind.
const sample = `
base b(int, sym). base c(sym). view v(int). view w(). view u(sym, int).
on go(). on put(X int, S sym): +b(X, S), -c(S), +b(-3, "a"). on v(): -c("").
v(X) :- b(X, _), not v(X), X != 3, c("a").
w().
u(S, X) :- b(X, S), c(S), not b(1, _), w(), X < 5, S != "z", 1 >= 2, X <= X, 7 > X, S = S.
u("k", 4).
w() :- not w().
`

func TestExamples(t *testing.T) { // P15.1
	for text, e := range map[string]api.Errno{
		`view v(int). v(X) :- not v(X).`:              158,
		`view v(int). v(1, 2).`:                       154,
		`base b(sym). view v(int). v(X) :- b(X).`:     156,
		`base b(sym). view v(sym). v(X) :- not b(X).`: 158,
	} {
		refused(t, text, program(t, text), api.Clause{Kind: api.CRule}, e)
	}
}

func TestValid(t *testing.T) { // P15.1
	valid(t, "nothing", api.Program{})
	valid(t, "empty lists", api.Program{Decls: []api.Decl{}, Ons: []api.On{}, Rules: []api.Rule{}})
	valid(t, "empty lists within", api.Program{
		Decls: []api.Decl{{Name: "v", Types: []api.Type{}}, {Name: "b", Base: true}},
		Ons:   []api.On{{Event: "e", Params: []api.Param{}, Acts: []api.Act{}}, {Event: "f", Acts: []api.Act{{Atom: api.Atom{Pred: "b", Args: []api.Term{}}}}}},
		Rules: []api.Rule{{Head: api.Atom{Pred: "v", Args: []api.Term{}}, Body: []api.Literal{}}},
	})
	empty := compared(num(1), api.CEq, num(1))
	empty.Atom.Args = []api.Term{}
	valid(t, "a comparison with an empty list", api.Program{Decls: []api.Decl{view("v")}, Rules: []api.Rule{{Head: atom("v"), Body: []api.Literal{empty}}}})
	for _, text := range []string{
		sample,
		`base b().`,
		`view v(). v().`,
		`view v(). v() :- v(), not v().`,
		`base int(int). view sym(sym). on int(): +int(1). on sym(): -int(-1). sym("X") :- int(_).`, // an event may be named like a relation
		`base b(int). on b(X int): +b(X), -b(X), +b(X).`,
		`base b(int). on e(X int, Y sym).`, // parameters that are not used
		`base b(int). view v(). v() :- b(_), not b(_).`,
		`base b(int, int). view v(int, int). v(X, X) :- b(X, X), X = X.`,
		`base b(int). view v(int). v(9223372036854775807) :- b(-9223372036854775808).`,
		`view v(int). v(X) :- X > 1, not v(X), v(X).`, // bound by the last literal
	} {
		valid(t, text, program(t, text))
	}
}

// TestEach has each check alone, in a text. What stands ahead of % is valid.
func TestEach(t *testing.T) { // P15.1
	head := "base b(int, sym). base c(int). view v(int). view w(). on go(). on put(X int, S sym): +b(X, S). w(). v(X) :- b(X, _). "
	decl, on, r := api.Clause{Kind: 1, I: 4}, api.Clause{Kind: 2, I: 2}, api.Clause{Kind: 3, I: 2}
	for _, x := range []struct {
		text string
		at   api.Clause
		e    api.Errno
	}{
		{"base b(int, sym).", decl, 150},
		{"view b(int, sym).", decl, 150},
		{"view w(int).", decl, 150},
		{"base d(int, int, int, int, int, int, int, int).", api.Clause{}, 0},
		{"base d(int, int, int, int, int, int, int, int, sym).", decl, 151},
		{"on go().", on, 150},
		{"on put(): -c(1).", on, 150},
		{"on e(X int, X int).", on, 152},
		{"on e(X int, Y sym, X sym).", on, 152},
		{"on e(A int, B int, C int, D sym, E sym, F sym, G sym, H int).", api.Clause{}, 0},
		{"on e(A int, B int, C int, D sym, E sym, F sym, G sym, H int, I int).", on, 152},
		{"on e(): +d(1).", on, 153},
		{"on e(): +v(1).", on, 153},
		{"on e(): -c(1), -w().", on, 153},
		{"on e(): +go().", on, 153},
		{"on e(): +c().", on, 154},
		{"on e(): +c(1), +c(1, 2).", on, 154},
		{"on e(X int): +b(_, \"\").", on, 155},
		{"on e(X int): +b(X, _).", on, 155},
		{"on e(X int): +b(Y, \"\").", on, 155},
		{"on e(X int): +b(S, \"\").", on, 155}, // another event's parameter
		{"on e(X int): +b(X, X).", on, 156},
		{"on e(X int): +b(X, 1).", on, 156},
		{"on e(X int): +b(\"X\", \"\").", on, 156},
		{"on e(X sym): -c(X).", on, 156},
		{"on e(X sym): -c(1), -b(2, X), +c(X).", on, 156},
		{"d(1) :- c(1).", r, 153},
		{"c(1).", r, 153},
		{"c(X) :- c(X).", r, 153},
		{"go().", r, 153},
		{"v().", r, 154},
		{"w(1).", r, 154},
		{"w(X) :- c(X).", r, 154},
		{"v(_).", r, 155},
		{"v(_) :- c(_).", r, 155},
		{"w() :- d(1).", r, 153},
		{"w() :- c(X), not d(X).", r, 153},
		{"w() :- c(X), X = 1, go().", r, 153},
		{"w() :- c().", r, 154},
		{"w() :- w(_).", r, 154},
		{"w() :- not c(1, 1).", r, 154},
		{"w() :- _ = 1.", r, 155},
		{"w() :- 1 = _.", r, 155},
		{"w() :- c(X), X = _.", r, 155},
		{"v(\"a\").", r, 156},
		{"w() :- c(\"a\").", r, 156},
		{"w() :- not b(1, 1).", r, 156},
		{"v(X) :- b(_, X).", r, 156},
		{"v(X) :- c(X), b(_, X).", r, 156},
		{"w() :- b(X, X).", r, 156},
		{"w() :- c(X), not b(_, X).", r, 156},
		{"w() :- not b(_, X), c(X).", r, 156},
		{"w() :- 1 = \"1\".", r, 156},
		{"w() :- \"1\" != 1.", r, 156},
		{"w() :- c(X), X = \"1\".", r, 156},
		{"w() :- \"1\" < X, c(X).", r, 156},
		{"w() :- b(X, Y), X <= Y.", r, 156},
		{"w() :- b(X, Y), Y >= X.", r, 156},
		{"v(X) :- X > \"\".", r, 156},          // the head gives X its type
		{"w() :- not c(X), X > \"\".", r, 156}, // a negated literal does
		{"w() :- X = Y.", r, 158},              // sides without a type
		{"w() :- X = 1.", r, 158},
		{"w() :- \"a\" = X, X = 1.", r, 158},
		{"w() :- c(Y), X = Y.", r, 158},
		{"v(X).", r, 158},
		{"v(X) :- w().", r, 158},
		{"v(X) :- not c(X).", r, 158},
		{"v(X) :- c(Y), X = Y.", r, 158},
		{"w() :- not b(X, _).", r, 158},
		{"w() :- c(X), not b(X, Y).", r, 158},
		{"w() :- c(X), not b(X, _).", api.Clause{}, 0},
	} {
		refused(t, x.text, program(t, head+x.text), x.at, x.e)
	}
}

// setting is an alteration of the sample program by which a check fails.
type setting struct {
	what string
	at   api.Clause
	e    api.Errno
	set  func(p *api.Program)
}

func declAt(i int) api.Clause { return api.Clause{Kind: api.CDecl, I: i} }

func onAt(i int) api.Clause { return api.Clause{Kind: api.COn, I: i} }

func ruleAt(i int) api.Clause { return api.Clause{Kind: api.CRule, I: i} }

// settings are alterations of the sample, in the order of the checks that fail by them.
func settings() []setting {
	l := []setting{
		{"declarations", api.Clause{}, 3, func(p *api.Program) { p.Decls = append(p.Decls, make([]api.Decl, 60)...) }},
		{"events", api.Clause{}, 3, func(p *api.Program) { p.Ons = append(p.Ons, make([]api.On, 62)...) }},
		{"rules", api.Clause{}, 3, func(p *api.Program) { p.Rules = append(p.Rules, make([]api.Rule, 252)...) }},
	}
	for _, i := range []int{1, 4} {
		d := func(p *api.Program) *api.Decl { return &p.Decls[i] }
		l = append(l,
			setting{"name", declAt(i), 150, func(p *api.Program) { d(p).Name = "b" }},
			setting{"types", declAt(i), 151, func(p *api.Program) { d(p).Types = append(d(p).Types, 0) }},
		)
	}
	// Two events of one name: the second one is told, whichever was altered.
	l = append(l, setting{"event", onAt(1), 150, func(p *api.Program) { p.Ons[1].Event = "go" }})
	return append(append(l, onSettings()...), ruleSettings()...)
}

func onSettings() []setting {
	o := func(p *api.Program) *api.On { return &p.Ons[1] }
	act := func(p *api.Program, i int) *api.Atom { return &o(p).Acts[i].Atom }
	at := onAt(1)
	return []setting{
		{"parameter", at, 152, func(p *api.Program) { o(p).Params = append(o(p).Params, param("x", 1)) }},
		{"acts", at, 3, func(p *api.Program) { o(p).Acts = append(o(p).Acts, make([]api.Act, 14)...) }},
		{"act 0 pred", at, 153, func(p *api.Program) { act(p, 0).Pred = "v" }},
		{"act 0 arity", at, 154, func(p *api.Program) { act(p, 0).Args = append(act(p, 0).Args, num(0)) }},
		{"act 0 term 0", at, 155, func(p *api.Program) { act(p, 0).Args[0].Kind = 3 }},
		{"act 0 type 0", at, 156, func(p *api.Program) { act(p, 0).Args[0].Name = "S" }},
		{"act 0 term 1", at, 155, func(p *api.Program) { act(p, 0).Args[1].V.Kind = 1 }},
		{"act 0 type 1", at, 156, func(p *api.Program) { act(p, 0).Args[1].Name = "X" }},
		{"act 1 pred", at, 153, func(p *api.Program) { act(p, 1).Pred = "C" }},
		{"act 1 arity", at, 154, func(p *api.Program) { act(p, 1).Args = nil }},
		{"act 2 term 0", at, 155, func(p *api.Program) { act(p, 2).Args[0].V.S = "1" }},
		{"act 2 type 1", at, 156, func(p *api.Program) { act(p, 2).Args[1].V = num(1).V }},
		{"event 2", onAt(2), 150, func(p *api.Program) { p.Ons[2].Event = "go" }},
	}
}

func ruleSettings() []setting {
	r := func(p *api.Program) *api.Rule { return &p.Rules[2] }
	lit := func(p *api.Program, i int) *api.Literal { return &r(p).Body[i] }
	at := ruleAt(2)
	return []setting{
		{"rule 0", ruleAt(0), 158, func(p *api.Program) { p.Rules[0].Body[0].Kind = 2 }},
		{"rule 1", ruleAt(1), 153, func(p *api.Program) { p.Rules[1].Head.Pred = "c" }},
		{"body", at, 3, func(p *api.Program) { r(p).Body = append(r(p).Body, make([]api.Literal, 7)...) }},
		{"head pred", at, 153, func(p *api.Program) { r(p).Head.Pred = "b" }},
		{"head arity", at, 154, func(p *api.Program) { r(p).Head.Args = append(r(p).Head.Args, num(1)) }},
		{"head term", at, 155, func(p *api.Program) { r(p).Head.Args[1] = anything() }},
		{"literal 0 fields", at, 155, func(p *api.Program) { lit(p, 0).A.Name = "X" }},
		{"literal 0 pred", at, 153, func(p *api.Program) { lit(p, 0).Atom.Pred = "nobody" }},
		{"literal 0 arity", at, 154, func(p *api.Program) { lit(p, 0).Atom.Args = append(lit(p, 0).Atom.Args, num(1)) }},
		{"literal 0 term", at, 155, func(p *api.Program) { lit(p, 0).Atom.Args[1].Name = "s" }},
		{"literal 1 pred", at, 153, func(p *api.Program) { lit(p, 1).Atom.Pred = "" }},
		{"literal 2 fields", at, 155, func(p *api.Program) { lit(p, 2).Op = 1 }},
		{"literal 2 pred", at, 153, func(p *api.Program) { lit(p, 2).Atom.Pred = "go" }},
		{"literal 2 arity", at, 154, func(p *api.Program) { lit(p, 2).Atom.Args = nil }},
		{"literal 3 arity", at, 154, func(p *api.Program) { lit(p, 3).Atom.Args = []api.Term{anything()} }},
		{"literal 4 op", at, 155, func(p *api.Program) { lit(p, 4).Op = 7 }},
		{"literal 5 pred", at, 155, func(p *api.Program) { lit(p, 5).Atom.Pred = "c" }},
		{"literal 6 kind", at, 155, func(p *api.Program) { lit(p, 6).Kind = 4 }},
		{"type", at, 156, func(p *api.Program) { r(p).Head.Args[0] = num(0) }},
		{"variables", at, 157, func(p *api.Program) {
			r(p).Body = append(r(p).Body, make([]api.Literal, 6)...)
			for i := range byte(9) {
				r(p).Body[7+i] = compared(variable("A"+string('a'+i)), 1, variable("B"+string('a'+i)))
			}
		}},
		{"safety", at, 158, func(p *api.Program) { lit(p, 6).A = variable("Z") }},
		{"rule 3", ruleAt(3), 154, func(p *api.Program) { p.Rules[3].Head.Args = nil }},
		{"rule 4", ruleAt(4), 155, func(p *api.Program) { p.Rules[4].Body[0].B = num(1) }},
	}
}

func TestOrder(t *testing.T) { // P15.1
	l := settings()
	for i, x := range l {
		p := program(t, sample)
		x.set(&p)
		refused(t, x.what, p, x.at, x.e)
		for _, y := range l[i+1:] {
			for _, both := range [][]setting{{x, y}, {y, x}} {
				p := program(t, sample)
				both[0].set(&p)
				both[1].set(&p)
				refused(t, x.what+", "+y.what, p, x.at, x.e)
				likeDefined(t, p)
			}
		}
	}
}

func TestClauses(t *testing.T) { // P15.1: of two clauses that are alike, the one that stands first is told
	for i := range 64 {
		p := api.Program{Decls: []api.Decl{base("b"), view("v")}}
		for k := range 64 {
			name := "n" + strings.Repeat("x", k%63)
			if k == 63 {
				name = "m"
			}
			p.Ons = append(p.Ons, api.On{Event: name})
			p.Rules = append(p.Rules, api.Rule{Head: atom("v")})
		}
		valid(t, "all", p)
		p.Rules[i].Head.Pred, p.Rules[63].Head.Pred = "b", "b"
		refused(t, "rule", p, ruleAt(i), 153)
		p.Ons[i].Params, p.Ons[63].Acts = []api.Param{{}}, []api.Act{{}}
		if i < 63 {
			p.Ons[63].Params = []api.Param{{}}
		}
		refused(t, "event", p, onAt(i), 152)
		p.Decls[1].Name = "on"
		refused(t, "declaration", p, declAt(1), 150)
		p.Ons = append(p.Ons, api.On{})
		if at, e := check.Program(p); at != (api.Clause{}) || e != 3 {
			t.Errorf("65 events: %v, %d", at, e)
		}
	}
}
