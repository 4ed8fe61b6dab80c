package parse_test

import (
	"math"
	"reflect"
	"strconv"
	"strings"
	"testing"

	"pedigree/api"
	"pedigree/parse"
)

// P13.1: Program, Rule, Atom, and what texts mean.

func TestExamples(t *testing.T) { // P13.1
	want := rule(atom("p", variable("X")), pos(atom("q", variable("X"), anything())), compared(variable("X"), api.CNe, num(-3)))
	gives(t, parse.Rule, "p(X) :- q(X, _), X != -3.", want)
	gives(t, parse.Program, "p(X) :- q(X, _), X != -3.", rules(want))
	misfits(t, parse.Program, "p(X) :- .", 8)
	misfits(t, parse.Rule, "p(X) :- .", 8)
	misfits(t, parse.Program, "p(", 2)
	misfits(t, parse.Rule, "p(", 2)
	misfits(t, parse.Atom, "p(", 2)
	misfits(t, parse.Program, "not(X).", 0)
	misfits(t, parse.Rule, "not(X).", 0)
	misfits(t, parse.Atom, "not(X).", 0)
}

func TestDecls(t *testing.T) { // P13.1
	gives(t, parse.Program, "base p().", decls(api.Decl{Name: "p", Base: true}))
	gives(t, parse.Program, "view p().", decls(api.Decl{Name: "p"}))
	gives(t, parse.Program, "base p(int).", decls(api.Decl{Name: "p", Base: true, Types: []api.Type{api.TInt}}))
	gives(t, parse.Program, "view p(sym).", decls(api.Decl{Name: "p", Types: []api.Type{api.TSym}}))
	gives(t, parse.Program, "view edge_9Z(sym,int , sym,sym).", decls(api.Decl{Name: "edge_9Z", Types: []api.Type{2, 1, 2, 2}}))
	gives(t, parse.Program, "base p(). view q(int). view p(). base p(sym).", decls( // whether names are there already is not asked here
		api.Decl{Name: "p", Base: true}, api.Decl{Name: "q", Types: []api.Type{1}}, api.Decl{Name: "p"}, api.Decl{Name: "p", Base: true, Types: []api.Type{2}}))
}

func TestOns(t *testing.T) { // P13.1
	gives(t, parse.Program, "on e().", ons(api.On{Event: "e"}))
	gives(t, parse.Program, "on e(A int).", ons(api.On{Event: "e", Params: []api.Param{{Name: "A", Type: api.TInt}}}))
	gives(t, parse.Program, "on e(A sym, Bc int, A sym).", ons(api.On{Event: "e", Params: []api.Param{{Name: "A", Type: 2}, {Name: "Bc", Type: 1}, {Name: "A", Type: 2}}}))
	gives(t, parse.Program, "on e(): +p().", ons(api.On{Event: "e", Acts: []api.Act{{Plus: true, Atom: atom("p")}}}))
	gives(t, parse.Program, "on e(): -p().", ons(api.On{Event: "e", Acts: []api.Act{{Atom: atom("p")}}}))
	gives(t, parse.Program, "on link(A sym, B sym): +edge(A, B), -gone(A).", ons(api.On{
		Event:  "link",
		Params: []api.Param{{Name: "A", Type: 2}, {Name: "B", Type: 2}},
		Acts:   []api.Act{{Plus: true, Atom: atom("edge", variable("A"), variable("B"))}, {Atom: atom("gone", variable("A"))}},
	}))
	gives(t, parse.Program, "on e(): -p(_), + p(1), - q(\"a\", -1), +p(Z). on e().", ons(api.On{
		Event: "e",
		Acts: []api.Act{
			{Atom: atom("p", anything())}, {Plus: true, Atom: atom("p", num(1))},
			{Atom: atom("q", sym("a"), num(-1))}, {Plus: true, Atom: atom("p", variable("Z"))},
		},
	}, api.On{Event: "e"}))
}

func TestRules(t *testing.T) { // P13.1
	for s, want := range map[string]api.Rule{
		"p().":                    rule(atom("p")),
		"p(X).":                   rule(atom("p", variable("X"))),
		"p() :- q().":             rule(atom("p"), pos(atom("q"))),
		"p() :- not q().":         rule(atom("p"), neg(atom("q"))),
		"p() :- X=Y.":             rule(atom("p"), compared(variable("X"), api.CEq, variable("Y"))),
		"p(_):-not p(_),p(_).":    rule(atom("p", anything()), neg(atom("p", anything())), pos(atom("p", anything()))),
		"p(1, \"a\") :- 1 < _.":   rule(atom("p", num(1), sym("a")), compared(num(1), api.CLt, anything())),
		"p() :- q(), q(), X=Y.":   rule(atom("p"), pos(atom("q")), pos(atom("q")), compared(variable("X"), api.CEq, variable("Y"))),
		"p() :- X=Y, not q(Z,Z).": rule(atom("p"), compared(variable("X"), api.CEq, variable("Y")), neg(atom("q", variable("Z"), variable("Z")))),
	} {
		gives(t, parse.Rule, s, want)
		gives(t, parse.Program, s, rules(want))
	}
}

func TestAtoms(t *testing.T) { // P13.1
	for s, want := range map[string]api.Atom{
		"p()":  atom("p"),
		"p(X)": atom("p", variable("X")),
		"p(_)": atom("p", anything()),
		"p(7)": atom("p", num(7)),
		"p(-9223372036854775808, 9223372036854775807)": atom("p", num(math.MinInt64), num(math.MaxInt64)),
		"p(0)":                      atom("p", num(0)),
		`p("")`:                     atom("p", sym("")),
		`p("a\n\"\\\x00(")`:         atom("p", sym("a\n\"\\\x00(")),
		`p("X", "_", "7", "not q")`: atom("p", sym("X"), sym("_"), sym("7"), sym("not q")),
		"p(X, _, 1, \"b\", X,_)":    atom("p", variable("X"), anything(), num(1), sym("b"), variable("X"), anything()),
		"a_B9z(Y_0)":                atom("a_B9z", variable("Y_0")),
		" \n p\t(\rX % c\n, 1)% d":  atom("p", variable("X"), num(1)),
	} {
		gives(t, parse.Atom, s, want)
		gives(t, parse.Rule, strings.TrimSuffix(s, "% d")+".", rule(want))
	}
}

// TestOps: each operator, between terms of all kinds.
func TestOps(t *testing.T) { // P13.1
	ops := []string{"=", "!=", "<", "<=", ">", ">="}
	texts := []string{"X", "Yy_1", "_", "0", "-3", `"a"`, `"=\""`}
	terms := []api.Term{variable("X"), variable("Yy_1"), anything(), num(0), num(-3), sym("a"), sym("=\"")}
	for i, op := range ops {
		for j := range texts {
			for k := range texts {
				want := rule(atom("p"), compared(terms[j], api.CmpOp(i+1), terms[k]))
				gives(t, parse.Rule, "p() :- "+texts[j]+" "+op+" "+texts[k]+".", want)
				gives(t, parse.Rule, "p():-"+texts[j]+op+texts[k]+".", want)
			}
		}
	}
}

// TestMixed: declarations, events and rules in any order, each kind in the order of the text.
func TestMixed(t *testing.T) { // P13.1
	s := `
		path(X, Y) :- edge(X, Y).          % a closure
		base edge(sym, sym). on link(A sym, B sym): +edge(A, B).
		path(X, Z) :- path(X, Y), edge(Y, Z).
		view path(sym, sym). view lone(sym). on cut(A sym): -edge(A, "b"), -edge("b", A).
		lone(X) :- edge(X, _), not path(X, X), X != "b". on none(). base node(int).`
	x, y, z := variable("X"), variable("Y"), variable("Z")
	gives(t, parse.Program, s, api.Program{
		Decls: []api.Decl{{Name: "edge", Base: true, Types: []api.Type{2, 2}}, {Name: "path", Types: []api.Type{2, 2}}, {Name: "lone", Types: []api.Type{2}}, {Name: "node", Base: true, Types: []api.Type{1}}},
		Ons: []api.On{
			{Event: "link", Params: []api.Param{{Name: "A", Type: 2}, {Name: "B", Type: 2}}, Acts: []api.Act{{Plus: true, Atom: atom("edge", variable("A"), variable("B"))}}},
			{Event: "cut", Params: []api.Param{{Name: "A", Type: 2}}, Acts: []api.Act{{Atom: atom("edge", variable("A"), sym("b"))}, {Atom: atom("edge", sym("b"), variable("A"))}}},
			{Event: "none"},
		},
		Rules: []api.Rule{
			rule(atom("path", x, y), pos(atom("edge", x, y))),
			rule(atom("path", x, z), pos(atom("path", x, y)), pos(atom("edge", y, z))),
			rule(atom("lone", x), pos(atom("edge", x, anything())), neg(atom("path", x, x)), compared(x, api.CNe, sym("b"))),
		},
	})
}

// TestNothing: no clause is a program, but neither a rule nor an atom, which end too early at the text's end.
func TestNothing(t *testing.T) { // P13.1
	for _, s := range []string{"", " ", "\n", "\t\r\n ", "%", "% p(X).", "% a\n", " % a\n\n % b"} {
		gives(t, parse.Program, s, api.Program{})
		misfits(t, parse.Rule, s, len(s))
		misfits(t, parse.Atom, s, len(s))
	}
}

// TestNames: what is no name where one is asked, and what is one: int and sym are.
func TestNames(t *testing.T) { // P13.1
	for _, w := range []string{"int", "sym", "bases", "viewed", "onn", "nota", "base_", "n", "o", "views", "noT", "oN"} {
		gives(t, parse.Atom, w+"()", atom(w))
		gives(t, parse.Rule, w+"(X) :- "+w+"(X), not "+w+"(X).", rule(atom(w, variable("X")), pos(atom(w, variable("X"))), neg(atom(w, variable("X")))))
		gives(t, parse.Program, "base "+w+"(int). view "+w+"(sym).", decls(api.Decl{Name: w, Base: true, Types: []api.Type{1}}, api.Decl{Name: w, Types: []api.Type{2}}))
		gives(t, parse.Program, "on "+w+"(): +"+w+"().", ons(api.On{Event: w, Acts: []api.Act{{Plus: true, Atom: atom(w)}}}))
	}
	for _, w := range []string{"base", "view", "on", "not"} {
		misfits(t, parse.Atom, w+"()", 0)
		misfits(t, parse.Rule, w+"().", 0)
		misfits(t, parse.Rule, "p() :- not "+w+"().", 11)
		misfits(t, parse.Program, "base "+w+"().", 5)
		misfits(t, parse.Program, "view "+w+"().", 5)
		misfits(t, parse.Program, "on "+w+"().", 3)
		misfits(t, parse.Program, "on e(): +"+w+"().", 9)
		misfits(t, parse.Program, "on e(): -"+w+"().", 9)
		misfits(t, parse.Atom, "p("+w+")", 2)
	}
	for _, w := range []string{"base", "view", "on"} {
		misfits(t, parse.Rule, "p() :- "+w+"().", 7)
		misfits(t, parse.Rule, "p() :- q(), "+w+"().", 12)
		misfits(t, parse.Program, w+"().", len(w))
	}
	misfits(t, parse.Rule, "p() :- not(X).", 10)
	misfits(t, parse.Rule, "p() :- not not p().", 11)
	misfits(t, parse.Program, "not p().", 0)
}

// TestLong: as many parts as a text has room for, and one byte more.
func TestLong(t *testing.T) { // P13.1
	n := api.MaxText/2 - 2
	s := "p(" + strings.Repeat("_,", n-1) + "_)"
	want := atom("p", slicesOf(n, anything())...)
	gives(t, parse.Atom, s+"  ", want)
	gives(t, parse.Rule, s+". ", rule(want))
	gives(t, parse.Program, s+". ", rules(rule(want)))
	misfits(t, parse.Atom, s+". ", len(s))
	if len(s+".  ") != api.MaxText+1 {
		t.Fatal(len(s))
	}
	fails(t, parse.Program, s+".  ", 0, 2)
	fails(t, parse.Rule, s+".  ", 0, 2)
	fails(t, parse.Atom, s+"   ", 0, 2)
	fails(t, parse.Atom, ")"+s+"?.", 0, 2)
	gives(t, parse.Program, strings.Repeat("p().", api.MaxText/4), rules(slicesOf(api.MaxText/4, rule(atom("p")))...))
	misfits(t, parse.Rule, strings.Repeat("p().", api.MaxText/4), 4)
	misfits(t, parse.Program, strings.Repeat("p().", api.MaxText/4-1)+"p() ", api.MaxText)
	many := strings.Repeat("p(),", 16000)
	gives(t, parse.Rule, "p():-"+many+"p().", rule(atom("p"), slicesOf(16001, pos(atom("p")))...))
	misfits(t, parse.Rule, "p():-"+many+many[:200], 64205)
	misfits(t, parse.Rule, "p():-"+many+".", 64005)
	long := strings.Repeat("q", api.MaxName)
	gives(t, parse.Atom, long+"("+strings.ToUpper(long)+")", atom(long, variable(strings.ToUpper(long))))
	fails(t, parse.Atom, "q"+long+"()", 0, 120)
	gives(t, parse.Atom, `p("`+strings.Repeat("s", api.MaxSym)+`")`, atom("p", sym(strings.Repeat("s", api.MaxSym))))
	fails(t, parse.Atom, `p("`+strings.Repeat("s", api.MaxSym+1)+`")`, 2, 120)
}

func slicesOf[T any](n int, x T) []T {
	var l []T
	for range n {
		l = append(l, x)
	}
	return l
}

// TestOwnMemory: no two lists of what is answered share anything, nor do two answers.
func TestOwnMemory(t *testing.T) { // P13.1
	s := strings.Repeat("base p(int, sym, int). on e(A int, B sym, C int): +p(A, B, C), -p(1, 2, 3), +p(X). p(X, Y, Z) :- q(X, _, 1), not p(X, Y, Z), X < Y. ", 3)
	p, _, _ := parse.Program(s)
	q, _, _ := parse.Program(s)
	r, _, _ := parse.Rule("p(X, Y, Z) :- q(X, _, 1), not p(X, Y, Z), X < Y.")
	a, _, _ := parse.Atom("p(X, Y, Z)")
	owner := map[uintptr]bool{}
	n := 0
	for _, x := range []any{p, q, r, a} {
		lists(reflect.ValueOf(x), func(l reflect.Value) {
			n++
			for i := range l.Cap() {
				at := l.Slice(0, l.Cap()).Index(i).Addr().Pointer()
				if owner[at] {
					t.Fatalf("%v is of two lists", l)
				}
				owner[at] = true
			}
		})
	}
	if n != 2*(3+3*(1+2+3)+3*(1+1+2))+4+1 {
		t.Errorf("%d lists", n)
	}
}

// lists calls a function with each list that has elements.
func lists(v reflect.Value, each func(reflect.Value)) {
	switch v.Kind() {
	case reflect.Slice:
		if v.Len() > 0 {
			each(v)
		}
		for i := range v.Len() {
			lists(v.Index(i), each)
		}
	case reflect.Struct:
		for i := range v.NumField() {
			lists(v.Field(i), each)
		}
	}
}

// TestSameAgain: what is answered hangs on the text alone.
func TestSameAgain(t *testing.T) { // P13.1
	for i := range 300 {
		s := "p(" + strconv.Itoa(i%3) + ") :- q(X), X < 3" + strings.Repeat(".", i%4) + "?"[:i%2]
		p, at, e := parse.Program(s)
		parse.Program("base r(")
		if q, at2, e2 := parse.Program(s); !equal(p, q) || at2 != at || e2 != e {
			t.Errorf("of %q: %v, %d, %d, then %v, %d, %d", s, p, at, e, q, at2, e2)
		}
	}
}
