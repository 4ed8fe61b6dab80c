package print

import (
	"pedigree/api"
	"pedigree/value"
)

// Each of these tells a part's text, and whether it has one. Where it has none, the string beside it means nothing.

func term(t api.Term) (string, bool) {
	switch t.Kind {
	case api.TVar:
		s, ok := variable(t.Name)
		return s, ok && t.V == (api.Value{})
	case api.TConst:
		s, e := value.Text(t.V)
		return s, e == api.OK && t.Name == ""
	case api.TAny:
		return "_", t == (api.Term{Kind: api.TAny})
	}
	return "", false
}

func atom(a api.Atom) (string, bool) {
	return named(a.Pred, a.Args, term)
}

func literal(l api.Literal) (string, bool) {
	not := ""
	switch l.Kind {
	case api.LNeg:
		not = "not "
		fallthrough
	case api.LPos:
		s, ok := atom(l.Atom)
		return not + s, ok && l.Op == 0 && l.A == (api.Term{}) && l.B == (api.Term{})
	case api.LCmp:
		s, ok := comparison(l.A, l.Op, l.B)
		return s, ok && l.Atom.Pred == "" && len(l.Atom.Args) == 0
	}
	return "", false
}

func comparison(a api.Term, op api.CmpOp, b api.Term) (string, bool) {
	left, okLeft := term(a)
	sign, okSign := operator(op)
	right, okRight := term(b)
	return left + " " + sign + " " + right, okLeft && okSign && okRight
}

func operator(op api.CmpOp) (string, bool) {
	signs := [...]string{api.CEq: "=", api.CNe: "!=", api.CLt: "<", api.CLe: "<=", api.CGt: ">", api.CGe: ">="}
	if op < api.CEq || op > api.CGe {
		return "", false
	}
	return signs[op], true
}

func rule(r api.Rule) (string, bool) {
	head, okHead := atom(r.Head)
	body, okBody := tail(" :- ", r.Body, literal)
	return head + body + ".", okHead && okBody
}

func decl(d api.Decl) (string, bool) {
	lead := "view "
	if d.Base {
		lead = "base "
	}
	s, ok := named(d.Name, d.Types, typed)
	return lead + s + ".", ok
}

func typed(t api.Type) (string, bool) {
	switch t {
	case api.TInt:
		return "int", true
	case api.TSym:
		return "sym", true
	}
	return "", false
}

func on(o api.On) (string, bool) {
	head, okHead := named(o.Event, o.Params, param)
	acts, okActs := tail(": ", o.Acts, act)
	return "on " + head + acts + ".", okHead && okActs
}

func param(p api.Param) (string, bool) {
	s, okName := variable(p.Name)
	t, okType := typed(p.Type)
	return s + " " + t, okName && okType
}

func act(a api.Act) (string, bool) {
	sign := "-"
	if a.Plus {
		sign = "+"
	}
	s, ok := atom(a.Atom)
	return sign + s, ok
}

func program(p api.Program) (string, bool) {
	decls, okDecls := lines(p.Decls, decl)
	ons, okOns := lines(p.Ons, on)
	rules, okRules := lines(p.Rules, rule)
	return decls + ons + rules, okDecls && okOns && okRules
}
