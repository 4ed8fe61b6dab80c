package check_test

import (
	"slices"
	"strconv"
	"strings"
	"testing"

	"pedigree/api"
)

// just is a number of things up to which a program is valid.
type just struct {
	what string
	most int
	at   api.Clause // the clause and the error where there is one more
	e    api.Errno
	with func(n int) api.Program
}

func repeated[T any](n int, f func(i int) T) []T {
	var l []T
	for i := range n {
		l = append(l, f(i))
	}
	return l
}

func named(c string, i int) string { return c + strconv.Itoa(i) }

var limits = []just{
	{"declarations", 64, api.Clause{}, 3, func(n int) api.Program {
		return api.Program{Decls: repeated(n, func(i int) api.Decl { return api.Decl{Name: named("d", i), Base: i%2 == 0} })}
	}},
	{"events", 64, api.Clause{}, 3, func(n int) api.Program {
		return api.Program{Ons: repeated(n, func(i int) api.On { return api.On{Event: named("e", i)} })}
	}},
	{"rules", 256, api.Clause{}, 3, func(n int) api.Program {
		return api.Program{Decls: []api.Decl{view("v")}, Rules: repeated(n, func(int) api.Rule { return api.Rule{Head: atom("v")} })}
	}},
	{"types", 8, declAt(0), 151, func(n int) api.Program {
		return api.Program{Decls: []api.Decl{view("v", repeated(n, func(i int) api.Type { return api.Type(1 + i%2) })...)}}
	}},
	{"terms", 8, declAt(0), 151, func(n int) api.Program {
		d := base("b", repeated(n, func(int) api.Type { return 1 })...)
		a := atom("b", repeated(n, func(i int) api.Term { return variable(named("X", i)) })...)
		return api.Program{Decls: []api.Decl{d, view("v")}, Rules: []api.Rule{{Head: atom("v"), Body: []api.Literal{pos(a)}}}}
	}},
	{"parameters", 8, onAt(0), 152, func(n int) api.Program {
		return api.Program{Ons: []api.On{{Event: "e", Params: repeated(n, func(i int) api.Param { return param(named("P", i), 2) })}}}
	}},
	{"acts", 16, onAt(0), 3, func(n int) api.Program {
		return api.Program{Decls: []api.Decl{base("b")}, Ons: []api.On{{Event: "e", Acts: repeated(n, func(int) api.Act { return api.Act{Atom: atom("b")} })}}}
	}},
	{"literals", 16, ruleAt(0), 3, func(n int) api.Program {
		return api.Program{Decls: []api.Decl{view("v")}, Rules: []api.Rule{{Head: atom("v"), Body: repeated(n, func(i int) api.Literal { return api.Literal{Kind: api.LitKind(1 + i%2), Atom: atom("v")} })}}}
	}},
	{"variables", 16, ruleAt(0), 157, func(n int) api.Program {
		var body []api.Literal
		for l := range slices.Chunk(repeated(n, func(i int) api.Term { return variable(named("X", i)) }), 2) {
			body = append(body, pos(atom("b", append(l, l[0])[:2]...)))
		}
		return api.Program{Decls: []api.Decl{base("b", 1, 1), view("v")}, Rules: []api.Rule{{Head: atom("v"), Body: body}}}
	}},
	{"bytes of a name", 64, declAt(0), 150, func(n int) api.Program {
		return api.Program{Decls: []api.Decl{view(strings.Repeat("v", n))}}
	}},
	{"bytes of a variable", 64, ruleAt(0), 155, func(n int) api.Program {
		x := variable(strings.Repeat("X", n))
		return api.Program{Decls: []api.Decl{view("v", 1)}, Rules: []api.Rule{{Head: atom("v", num(1)), Body: []api.Literal{pos(atom("v", x))}}}}
	}},
	{"bytes of a parameter", 64, onAt(0), 152, func(n int) api.Program {
		return api.Program{Ons: []api.On{{Event: "e", Params: []api.Param{param("P"+strings.Repeat("x", n-1), 1)}}}}
	}},
	{"bytes of an event", 64, onAt(0), 150, func(n int) api.Program {
		return api.Program{Ons: []api.On{{Event: strings.Repeat("e", n)}}}
	}},
	{"bytes of a symbol", 256, ruleAt(0), 155, func(n int) api.Program {
		return api.Program{Decls: []api.Decl{view("v", 2)}, Rules: []api.Rule{{Head: atom("v", sym(strings.Repeat("\xff", n)))}}}
	}},
}

func TestLimits(t *testing.T) { // P15.1
	for _, x := range limits {
		for _, n := range []int{1, x.most - 1, x.most} {
			valid(t, named(x.what+" ", n), x.with(n))
		}
		for _, n := range []int{x.most + 1, x.most + 2, 2 * x.most} {
			refused(t, named(x.what+" ", n), x.with(n), x.at, x.e)
		}
	}
}

func TestManyVariables(t *testing.T) { // P15.1: all variables count, those of the head, of negated literals and of comparisons too
	p := program(t, "base b(int, int). view v(int). view w().")
	body := repeated(8, func(i int) api.Literal { return pos(atom("b", variable(named("X", 2*i)), variable(named("X", 2*i+1)))) })
	w := func(l ...api.Literal) []api.Rule {
		return []api.Rule{{Head: atom("w"), Body: append(slices.Clone(body), l...)}}
	}
	p.Rules = w()
	valid(t, "16", p)
	p.Rules = w(neg(atom("b", variable("X3"), variable("X15"))), compared(variable("X0"), 1, variable("X9")))
	valid(t, "16 again and again", p)
	for _, l := range []api.Literal{
		pos(atom("b", variable("X3"), variable("Y"))),
		neg(atom("b", variable("Y"), anything())),
		compared(variable("Y"), 1, num(1)),
		compared(num(1), 1, variable("Y")),
	} {
		p.Rules = w(l)
		refused(t, "17", p, ruleAt(0), 157)
	}
	p.Rules = w()
	p.Rules[0].Head = atom("v", variable("Y"))
	refused(t, "17 with the head", p, ruleAt(0), 157)
	p.Rules[0].Body = body[1:]
	refused(t, "15, and one that is not bound", p, ruleAt(0), 158)
}

// with is a program of one base relation, one view, an event and a rule, each of which a function may alter.
func with(t *testing.T, alter func(p *api.Program)) api.Program {
	t.Helper()
	p := program(t, "base b(int). view v(int). on e(X int): +b(X), -b(1). v(X) :- b(X), not v(X), X = 2. v(3).")
	valid(t, "unaltered", p)
	alter(&p)
	return p
}

func TestFields(t *testing.T) { // P15.1: fields that are not mentioned, and kinds below, at and above those that there are
	for _, v := range []api.Value{{Kind: 1}, {Kind: 2}, {N: 1}, {S: "X"}, {Kind: -1}} {
		for _, kind := range []api.TermKind{1, 3} {
			for i, at := range []api.Clause{onAt(0), ruleAt(0), ruleAt(0), ruleAt(0), ruleAt(0)} {
				refused(t, "a value", with(t, func(p *api.Program) {
					x := terms(p)[i]
					x.Kind, x.V = kind, v
				}), at, 155)
			}
		}
	}
	for _, kind := range []api.TermKind{-1, 0, 2, 4, 5, 1 << 40} {
		for i, at := range []api.Clause{onAt(0), ruleAt(0), ruleAt(0), ruleAt(0), ruleAt(0)} {
			refused(t, "a kind of a term", with(t, func(p *api.Program) { terms(p)[i].Kind = kind }), at, 155)
		}
	}
	for _, name := range []string{"", "x", "_", "X ", " X", "1", "X-Y", "\xff"} {
		for i, at := range []api.Clause{onAt(0), ruleAt(0), ruleAt(0), ruleAt(0), ruleAt(0)} {
			refused(t, "a name of a variable", with(t, func(p *api.Program) { terms(p)[i].Name = name }), at, 155)
		}
	}
	for _, kind := range []api.LitKind{-1, 0, 4, 5, 1 << 40} {
		for i := range 3 {
			refused(t, "a kind of a literal", with(t, func(p *api.Program) { p.Rules[0].Body[i].Kind = kind }), ruleAt(0), 155)
		}
	}
	for _, op := range []api.CmpOp{-1, 0, 7, 8, 1 << 40} {
		refused(t, "an operator", with(t, func(p *api.Program) { p.Rules[0].Body[2].Op = op }), ruleAt(0), 155)
	}
	for op := api.CmpOp(1); op <= 6; op++ {
		valid(t, "an operator", with(t, func(p *api.Program) { p.Rules[0].Body[2].Op = op }))
		for i := range 2 {
			refused(t, "an operator of an atom", with(t, func(p *api.Program) { p.Rules[0].Body[i].Op = op }), ruleAt(0), 155)
		}
	}
	for _, is := range []api.Type{-1, 0, 3, 4, 1 << 40} {
		refused(t, "a type", with(t, func(p *api.Program) { p.Decls[1].Types[0] = is }), declAt(1), 151)
		refused(t, "a type of a parameter", with(t, func(p *api.Program) { p.Ons[0].Params[0].Type = is }), onAt(0), 152)
	}
}

// terms are those variables of a program of with that stand in an act, in the head, in literals, and in the comparison.
func terms(p *api.Program) []*api.Term {
	r := &p.Rules[0]
	return []*api.Term{&p.Ons[0].Acts[0].Atom.Args[0], &r.Head.Args[0], &r.Body[0].Atom.Args[0], &r.Body[1].Atom.Args[0], &r.Body[2].A}
}

func TestTermsInPlaces(t *testing.T) { // P15.1
	for _, x := range []api.Term{{}, {Name: "X"}, {V: api.Value{Kind: 1}}, anything(), num(1), variable("X")} {
		for i := range 2 {
			for k := range 2 {
				p := with(t, func(p *api.Program) { *[]*api.Term{&p.Rules[0].Body[i].A, &p.Rules[0].Body[i].B}[k] = x })
				if x == (api.Term{}) {
					valid(t, "nothing beside an atom", p)
				} else {
					refused(t, "a term beside an atom", p, ruleAt(0), 155)
				}
			}
		}
	}
	for _, a := range []api.Atom{atom("b"), atom("b", num(1)), atom("", num(1)), atom("", api.Term{}), atom("nobody")} {
		refused(t, "an atom beside a comparison", with(t, func(p *api.Program) { p.Rules[0].Body[2].Atom = a }), ruleAt(0), 155)
	}
	for _, v := range []api.Value{{}, {Kind: 1, N: 1, S: "a"}, {Kind: 2, N: 1}, {Kind: 2, N: 1, S: "a"}, {Kind: 3}, {Kind: -1}, {N: 1}, {S: "a"}} {
		x := constant(v)
		refused(t, "an act's constant", with(t, func(p *api.Program) { p.Ons[0].Acts[1].Atom.Args[0] = x }), onAt(0), 155)
		refused(t, "a fact's constant", with(t, func(p *api.Program) { p.Rules[1].Head.Args[0] = x }), ruleAt(1), 155)
		refused(t, "a literal's constant", with(t, func(p *api.Program) { p.Rules[0].Body[1].Atom.Args[0] = x }), ruleAt(0), 155)
		refused(t, "a compared constant", with(t, func(p *api.Program) { p.Rules[0].Body[2].B = x }), ruleAt(0), 155)
	}
	refused(t, "a constant with a name", with(t, func(p *api.Program) { p.Rules[0].Body[2].B.Name = "X" }), ruleAt(0), 155)
	valid(t, "_ in a literal", with(t, func(p *api.Program) { p.Rules[0].Body[1].Atom.Args[0] = anything() }))
	refused(t, "_ with a name in a literal", with(t, func(p *api.Program) { p.Rules[0].Body[1].Atom.Args[0] = api.Term{Kind: 3, Name: "X"} }), ruleAt(0), 155)
	refused(t, "_ in the head", with(t, func(p *api.Program) { p.Rules[0].Head.Args[0] = anything() }), ruleAt(0), 155)
	refused(t, "_ in an act", with(t, func(p *api.Program) { p.Ons[0].Acts[0].Atom.Args[0] = anything() }), onAt(0), 155)
	refused(t, "_ compared", with(t, func(p *api.Program) { p.Rules[0].Body[2].A = anything() }), ruleAt(0), 155)
}

func TestNames(t *testing.T) { // P15.1
	for _, s := range []string{"", "B", "base", "view", "on", "not", "_", "b-c", "b ", " b", "1b", "b\n", "\xff", "b()", "é"} {
		refused(t, s, with(t, func(p *api.Program) { p.Decls[0].Name = s }), declAt(0), 150)
		refused(t, s, with(t, func(p *api.Program) { p.Decls[1].Name = s }), declAt(1), 150)
		refused(t, s, with(t, func(p *api.Program) { p.Ons[0].Event = s }), onAt(0), 150)
		refused(t, s, with(t, func(p *api.Program) { p.Ons[0].Acts[1].Atom.Pred = s }), onAt(0), 153)
		refused(t, s, with(t, func(p *api.Program) { p.Rules[1].Head.Pred = s }), ruleAt(1), 153)
		refused(t, s, with(t, func(p *api.Program) { p.Rules[0].Body[1].Atom.Pred = s }), ruleAt(0), 153)
	}
	for _, s := range []string{"", "x", "_", "on", "P ", "1", "P-Q", "\xff"} {
		refused(t, s, with(t, func(p *api.Program) { p.Ons[0].Params[0].Name = s }), onAt(0), 152)
	}
	for _, s := range []string{"e", "b", "v", "int", "sym", "nota", "oN", "b_1"} {
		valid(t, s, with(t, func(p *api.Program) { p.Ons[0].Event = s }))
		valid(t, s, api.Program{Decls: []api.Decl{base(s), view("z")}, Ons: []api.On{{Event: s}}})
	}
}

func TestNobodyDeclared(t *testing.T) { // P15.1: an event and a rule need their relations, a program needs none
	refused(t, "a fact", program(t, "v()."), ruleAt(0), 153)
	refused(t, "an act", program(t, "on e(): +b()."), onAt(0), 153)
	refused(t, "a zero declaration", api.Program{Decls: make([]api.Decl, 1)}, declAt(0), 150)
	refused(t, "a zero event", api.Program{Ons: make([]api.On, 1)}, onAt(0), 150)
	refused(t, "a zero rule", api.Program{Rules: make([]api.Rule, 1)}, ruleAt(0), 153)
	refused(t, "a zero act", with(t, func(p *api.Program) { p.Ons[0].Acts[0] = api.Act{} }), onAt(0), 153)
	refused(t, "a zero literal", with(t, func(p *api.Program) { p.Rules[0].Body[0] = api.Literal{} }), ruleAt(0), 155)
}
