package print_test

import (
	"math"
	"slices"
	"strings"
	"testing"
	"unsafe"

	"pedigree/api"
	"pedigree/print"
)

// P14.1: the texts, and which parts have none.

func TestExamples(t *testing.T) { // P14.1
	is(t, on("link", params(param("A", api.TSym), param("B", api.TSym)), plus(atom("edge", variable("A"), variable("B"))), minus(atom("gone", variable("A")))),
		"on link(A sym, B sym): +edge(A, B), -gone(A).")
	is(t, rule(atom("only", variable("X")), pos(atom("node", variable("X"))), neg(atom("path", variable("X"), anything())), compared(variable("X"), api.CNe, sym("a"))),
		`only(X) :- node(X), not path(X, _), X != "a".`)
}

func TestTerms(t *testing.T) { // P14.1
	for want, x := range map[string]api.Term{
		"X": variable("X"), "A_1": variable("A_1"), "_": anything(), "0": num(0), "7": num(7), "-3": num(-3),
		"9223372036854775807": num(math.MaxInt64), "-9223372036854775808": num(math.MinInt64),
		`""`: sym(""), `"a"`: sym("a"), `"a\n\""`: sym("a\n\""), `"X"`: sym("X"), `"_"`: sym("_"), `"7"`: sym("7"), `"\\"`: sym(`\`), `"\t\x00\xff% "`: sym("\t\x00\xff% "), `"\xc3\xa9"`: sym("é"),
	} {
		is(t, x, want)
		is(t, atom("p", x), "p("+want+")")
		is(t, atom("p", x, x, x), "p("+want+", "+want+", "+want+")")
		is(t, compared(x, api.CEq, x), want+" = "+want)
	}
	is(t, sym(strings.Repeat("a", 256)), `"`+strings.Repeat("a", 256)+`"`)
	is(t, sym(strings.Repeat("\x01", 256)), `"`+strings.Repeat(`\x01`, 256)+`"`)
	for i := range 256 {
		likeDefined(t, sym(string([]byte{byte(i)})))
		likeDefined(t, sym(string([]byte{'a', byte(i), byte(i), '0'})))
	}
}

func TestTermsWithoutText(t *testing.T) { // P14.1
	for _, x := range []api.Term{
		{}, {Kind: -1}, {Kind: 4}, {Kind: math.MaxInt64}, {Kind: math.MinInt64}, {Kind: 1 << 32}, {Kind: 1<<32 + 3}, {Name: "X"}, {Kind: 4, Name: "X"}, {V: api.Value{Kind: 1}}, {Kind: -2, V: api.Value{Kind: 1}},
		{Kind: api.TVar}, variable("x"), variable("_"), variable("X "), variable("base"),
		{Kind: api.TVar, Name: "X", V: api.Value{Kind: 1}}, {Kind: api.TVar, Name: "X", V: api.Value{N: 1}}, {Kind: api.TVar, Name: "X", V: api.Value{S: "a"}}, {Kind: api.TVar, V: api.Value{Kind: 1}},
		{Kind: api.TConst}, {Kind: api.TConst, Name: "X"}, {Kind: api.TConst, Name: "X", V: api.Value{Kind: 1}}, {Kind: api.TConst, Name: "x", V: api.Value{Kind: 2, S: "x"}}, {Kind: api.TConst, Name: "_", V: api.Value{Kind: 2}},
		constant(api.Value{N: 7}), constant(api.Value{S: "a"}), constant(api.Value{Kind: 1, S: "a"}), constant(api.Value{Kind: 1, N: 7, S: "a"}), constant(api.Value{Kind: 2, N: 7}), constant(api.Value{Kind: 2, N: -1, S: "a"}),
		constant(api.Value{Kind: 3}), constant(api.Value{Kind: -1}), constant(api.Value{Kind: 3, N: 1}), constant(api.Value{Kind: 1 << 32}), sym(strings.Repeat("a", 257)), sym(strings.Repeat("a", 1<<20)),
		{Kind: api.TAny, Name: "X"}, {Kind: api.TAny, Name: "_"}, {Kind: api.TAny, V: api.Value{Kind: 1}}, {Kind: api.TAny, V: api.Value{N: 1}}, {Kind: api.TAny, V: api.Value{S: "_"}},
	} {
		for _, y := range whole(x) {
			none(t, y)
		}
	}
}

func TestAtoms(t *testing.T) { // P14.1
	is(t, atom("p"), "p()")
	is(t, api.Atom{Pred: "p", Args: []api.Term{}}, "p()")
	is(t, atom("int", variable("X")), "int(X)")
	is(t, atom("edge", variable("X"), anything(), num(-3), sym("a b"), variable("X")), `edge(X, _, -3, "a b", X)`)
	is(t, atom("p", slices.Repeat([]api.Term{anything()}, 9)...), "p(_, _, _, _, _, _, _, _, _)")
	none(t, api.Atom{})
	none(t, atom("", anything()))
	for _, x := range []api.Atom{atom("P"), atom("not"), atom("p q"), atom("p()"), atom("_"), atom("on", num(1)), atom("p", api.Term{}), atom("p", num(1), api.Term{}), atom("p", api.Term{}, num(1)), atom("p", num(1), variable("y"), num(2))} {
		for _, y := range whole(x) {
			none(t, y)
		}
	}
}

func TestLiterals(t *testing.T) { // P14.1
	is(t, pos(atom("p")), "p()")
	is(t, neg(atom("p")), "not p()")
	is(t, pos(atom("p", variable("X"), num(1))), "p(X, 1)")
	is(t, neg(atom("p", variable("X"), num(1))), "not p(X, 1)")
	for i, op := range []string{"=", "!=", "<", "<=", ">", ">="} {
		is(t, compared(variable("X"), api.CmpOp(i+1), num(-1)), "X "+op+" -1")
		is(t, compared(sym("a"), api.CmpOp(i+1), variable("Y")), `"a" `+op+" Y")
		is(t, compared(anything(), api.CmpOp(i+1), anything()), "_ "+op+" _")
	}
	x := compared(num(1), api.CEq, num(2))
	x.Atom.Args = []api.Term{}
	is(t, x, "1 = 2")
}

func TestLiteralsWithoutText(t *testing.T) { // P14.1
	p, x, one := atom("p"), variable("X"), api.Value{Kind: 1}
	for _, l := range []api.Literal{
		{}, {Kind: -1}, {Kind: 4}, {Atom: p}, {Kind: 4, Atom: p}, {Kind: -1, Atom: p}, {Kind: 1 << 32, Atom: p}, {Op: 1, A: x, B: x}, {Kind: 4, Op: 1, A: x, B: x}, {Kind: math.MaxInt64, Op: 1, A: x, B: x},
		{Kind: 1}, {Kind: 2}, {Kind: 3}, {Kind: 1, Op: 1, A: x, B: x}, {Kind: 2, Op: 1, A: x, B: x}, {Kind: 3, Atom: p},
		{Kind: 1, Atom: p, Op: 1}, {Kind: 1, Atom: p, Op: -1}, {Kind: 1, Atom: p, Op: 7}, {Kind: 1, Atom: p, A: x}, {Kind: 1, Atom: p, B: x}, {Kind: 1, Atom: p, A: anything()}, {Kind: 1, Atom: p, B: anything()},
		{Kind: 1, Atom: p, A: api.Term{Name: "X"}}, {Kind: 1, Atom: p, B: api.Term{Name: "X"}}, {Kind: 1, Atom: p, A: api.Term{V: one}}, {Kind: 1, Atom: p, B: api.Term{V: one}}, {Kind: 1, Atom: p, Op: 1, A: x, B: x},
		{Kind: 2, Atom: p, Op: 1}, {Kind: 2, Atom: p, Op: -1}, {Kind: 2, Atom: p, Op: 7}, {Kind: 2, Atom: p, A: x}, {Kind: 2, Atom: p, B: x}, {Kind: 2, Atom: p, A: api.Term{Name: "X"}}, {Kind: 2, Atom: p, B: api.Term{V: one}},
		{Kind: 3, Op: 1}, {Kind: 3, Op: 1, A: x}, {Kind: 3, Op: 1, B: x}, {Kind: 3, A: x, B: x}, {Kind: 3, Op: 7, A: x, B: x}, {Kind: 3, Op: -1, A: x, B: x}, {Kind: 3, Op: math.MaxInt64, A: x, B: x}, {Kind: 3, Op: math.MinInt64, A: x, B: x}, {Kind: 3, Op: 1<<32 + 1, A: x, B: x},
		{Kind: 3, Op: 1, A: x, B: x, Atom: p}, {Kind: 3, Op: 1, A: x, B: x, Atom: api.Atom{Args: []api.Term{{}}}}, {Kind: 3, Op: 1, A: x, B: x, Atom: atom("", x)}, {Kind: 3, Op: 1, A: x, B: x, Atom: atom("P")},
		{Kind: 3, Op: 1, A: variable("x"), B: x}, {Kind: 3, Op: 1, A: x, B: variable("x")}, {Kind: 3, Op: 1, A: x, B: api.Term{Kind: 3, Name: "X"}},
	} {
		for _, y := range whole(l) {
			none(t, y)
		}
	}
}

func TestRules(t *testing.T) { // P14.1
	p, q := atom("p", variable("X")), atom("q", variable("X"))
	is(t, rule(p), "p(X).")
	is(t, api.Rule{Head: p, Body: []api.Literal{}}, "p(X).")
	is(t, rule(p, pos(q)), "p(X) :- q(X).")
	is(t, rule(p, neg(q)), "p(X) :- not q(X).")
	is(t, rule(p, compared(num(1), api.CLt, num(2))), "p(X) :- 1 < 2.")
	is(t, rule(p, pos(q), neg(p), compared(variable("X"), api.CGe, sym("a")), pos(q)), `p(X) :- q(X), not p(X), X >= "a", q(X).`)
	is(t, rule(p, slices.Repeat([]api.Literal{pos(atom("q"))}, 40)...), "p(X) :- "+strings.Repeat("q(), ", 39)+"q().")
	none(t, api.Rule{})
	none(t, rule(api.Atom{}, pos(q)))
	none(t, rule(p, api.Literal{}))
	none(t, rule(p, pos(q), api.Literal{}))
	none(t, rule(p, api.Literal{}, pos(q)))
	none(t, rule(atom("on"), pos(q)))
}

func TestDecls(t *testing.T) { // P14.1
	is(t, base("p"), "base p().")
	is(t, view("p"), "view p().")
	is(t, api.Decl{Name: "p", Types: []api.Type{}}, "view p().")
	is(t, base("edge", api.TInt), "base edge(int).")
	is(t, base("edge", api.TSym), "base edge(sym).")
	is(t, view("sym", api.TInt, api.TSym, api.TSym, api.TInt), "view sym(int, sym, sym, int).")
	is(t, view("p", slices.Repeat([]api.Type{1}, 20)...), "view p("+strings.Repeat("int, ", 19)+"int).")
	for _, n := range []api.Type{0, -1, 3, 4, 1 << 32, 1<<32 + 1, math.MaxInt64, math.MinInt64} {
		for _, x := range []api.Decl{base("p", n), view("p", n), view("p", 1, n), view("p", n, 2)} {
			for _, y := range whole(x) {
				none(t, y)
			}
		}
	}
	for _, s := range []string{"", "P", "view", "p q", "p()"} {
		for _, y := range append(whole(base(s)), whole(view(s, 1))...) {
			none(t, y)
		}
	}
	none(t, api.Decl{})
}

func TestOns(t *testing.T) { // P14.1
	p := atom("p", variable("A"))
	is(t, on("e", nil), "on e().")
	is(t, api.On{Event: "e", Params: []api.Param{}, Acts: []api.Act{}}, "on e().")
	is(t, on("e", params(param("A", api.TInt))), "on e(A int).")
	is(t, on("e", params(param("A", api.TSym), param("B", api.TInt), param("A", api.TInt))), "on e(A sym, B int, A int).")
	is(t, on("e", nil, plus(p)), "on e(): +p(A).")
	is(t, on("e", nil, minus(p)), "on e(): -p(A).")
	is(t, on("int", params(param("Int", api.TInt)), minus(p), plus(atom("q", num(-1))), minus(atom("q")), plus(p)), "on int(Int int): -p(A), +q(-1), -q(), +p(A).")
	for _, x := range []api.On{
		{}, on("", nil), on("on", nil), on("E", nil), on("e", params(api.Param{})), on("e", params(param("A", 0))), on("e", params(param("A", 3))), on("e", params(param("A", -1))), on("e", params(param("", 1))), on("e", params(param("a", 1))),
		on("e", params(param("_", 1))), on("e", params(param("A", 1), param("A int", 1))), on("e", params(param("A", 1), param("B", 3))), on("e", params(param("A", 0), param("B", 1))),
		on("e", nil, api.Act{}), on("e", nil, plus(api.Atom{})), on("e", nil, plus(p), minus(api.Atom{})), on("e", nil, minus(atom("P")), plus(p)), on("e", params(param("A", 3)), plus(p)), on("e", params(param("A", 1)), plus(atom("p", api.Term{}))),
	} {
		for _, y := range whole(x) {
			none(t, y)
		}
	}
}

func TestPrograms(t *testing.T) { // P14.1
	is(t, api.Program{}, "")
	is(t, api.Program{Decls: []api.Decl{}, Ons: []api.On{}, Rules: []api.Rule{}}, "")
	is(t, api.Program{Decls: []api.Decl{base("p")}}, "base p().\n")
	is(t, api.Program{Ons: []api.On{on("e", nil)}}, "on e().\n")
	is(t, api.Program{Rules: []api.Rule{rule(atom("p"))}}, "p().\n")
	is(t, api.Program{
		Decls: []api.Decl{view("path", 1, 1), base("edge", 1, 1), base("z")},
		Ons:   []api.On{on("link", params(param("A", 1), param("B", 1)), plus(atom("edge", variable("A"), variable("B")))), on("e", nil)},
		Rules: []api.Rule{
			rule(atom("path", variable("X"), variable("Z")), pos(atom("path", variable("X"), variable("Y"))), pos(atom("edge", variable("Y"), variable("Z")))),
			rule(atom("path", variable("X"), variable("Y")), pos(atom("edge", variable("X"), variable("Y")))),
			rule(atom("a")),
		},
	}, "view path(int, int).\nbase edge(int, int).\nbase z().\non link(A int, B int): +edge(A, B).\non e().\npath(X, Z) :- path(X, Y), edge(Y, Z).\npath(X, Y) :- edge(X, Y).\na().\n")
	good := api.Program{Decls: []api.Decl{base("p"), view("q")}, Ons: []api.On{on("e", nil), on("f", nil)}, Rules: []api.Rule{rule(atom("p")), rule(atom("q"))}}
	is(t, good, "base p().\nview q().\non e().\non f().\np().\nq().\n")
	for i := range 2 {
		p := copied(good).(api.Program)
		p.Decls[i].Name = "on"
		none(t, p)
		p = copied(good).(api.Program)
		p.Ons[i].Event = ""
		none(t, p)
		p = copied(good).(api.Program)
		p.Rules[i].Head.Pred = "X"
		none(t, p)
	}
}

// TestOwn: a text shares no memory with the variable that it is.
func TestOwn(t *testing.T) { // P14.1
	x := variable(strings.Repeat("A", 20))
	a, _ := print.Term(x)
	b, _ := print.Term(x)
	if p, q := unsafe.StringData(a), unsafe.StringData(b); p == unsafe.StringData(x.Name) || p == q {
		t.Error("the same bytes")
	}
}
