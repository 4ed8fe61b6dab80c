package check

import (
	"pedigree/api"
	"pedigree/print"
)

// checker checks the clauses of a program one by one. At the first check that fails it panics, for Program to recover.
type checker struct {
	at        api.Clause // the one that is checked
	relations relations  // those that are declared ahead of it
}

// fault is a check that failed.
type fault struct {
	at    api.Clause
	errno api.Errno
}

func (c *checker) need(holds bool, e api.Errno) {
	if !holds {
		panic(fault{c.at, e})
	}
}

func (c *checker) program(p api.Program) {
	c.need(len(p.Decls) <= api.MaxDecls && len(p.Ons) <= api.MaxOns && len(p.Rules) <= api.MaxRules, api.ErrMany)
	for i, d := range p.Decls {
		c.at = api.Clause{Kind: api.CDecl, I: i}
		c.decl(d)
	}
	events := map[string]int{}
	for i, o := range p.Ons {
		c.at = api.Clause{Kind: api.COn, I: i}
		events[o.Event]++
		c.need(print.Name(o.Event) && events[o.Event] == 1, api.ErrNames)
		c.on(o)
	}
	for i, r := range p.Rules {
		c.at = api.Clause{Kind: api.CRule, I: i}
		c.rule(r)
	}
}

func (c *checker) decl(d api.Decl) {
	_, is := c.relations[d.Name]
	c.need(print.Name(d.Name) && !is, api.ErrNames)
	c.need(len(d.Types) <= api.MaxArity, api.ErrTypes)
	for _, t := range d.Types {
		c.need(isType(t), api.ErrTypes)
	}
	c.relations[d.Name] = d
}

func (c *checker) on(o api.On) {
	c.need(len(o.Params) <= api.MaxArity, api.ErrParam)
	params := map[string]api.Type{}
	for _, p := range o.Params {
		c.need(print.Var(p.Name) && params[p.Name] == 0 && isType(p.Type), api.ErrParam)
		params[p.Name] = p.Type
	}
	c.need(len(o.Acts) <= api.MaxActs, api.ErrMany)
	for _, a := range o.Acts {
		c.act(a.Atom, params)
	}
}

func (c *checker) act(a api.Atom, params map[string]api.Type) {
	columns := c.columns(a, func(d api.Decl) bool { return d.Base })
	for i, t := range a.Args {
		c.need(definite(t), api.ErrTerm)
		is := typeOf(t, params)
		c.need(is != 0, api.ErrTerm) // a variable that is no parameter
		c.need(is == columns[i], api.ErrType)
	}
}

// columns are the types of an atom's terms as its relation is declared, which has to be one that may stand there.
func (c *checker) columns(a api.Atom, may func(api.Decl) bool) []api.Type {
	d, is := c.relations[a.Pred]
	c.need(is && may(d), api.ErrPred)
	c.need(len(a.Args) == len(d.Types), api.ErrArity)
	return d.Types
}

func (c *checker) rule(r api.Rule) {
	c.need(len(r.Body) <= api.MaxBody, api.ErrMany)
	c.columns(r.Head, func(d api.Decl) bool { return !d.Base })
	for _, t := range r.Head.Args {
		c.need(definite(t), api.ErrTerm)
	}
	for _, l := range r.Body {
		c.literal(l)
	}
	c.typed(r)
	n := len(Vars(r))
	c.need(n <= api.MaxVars, api.ErrVars)
	c.need(n == len(Bound(r)), api.ErrSafe)
}

func (c *checker) literal(l api.Literal) {
	switch l.Kind {
	case api.LPos, api.LNeg:
		none := api.Term{}
		c.need(l.Op == 0 && l.A == none && l.B == none, api.ErrTerm)
		c.columns(l.Atom, func(api.Decl) bool { return true })
		for _, t := range l.Atom.Args {
			c.need(wellFormed(t), api.ErrTerm)
		}
	case api.LCmp:
		c.need(l.Op >= api.CEq && l.Op <= api.CGe, api.ErrTerm)
		c.need(definite(l.A) && definite(l.B), api.ErrTerm)
		c.need(l.Atom.Pred == "" && len(l.Atom.Args) == 0, api.ErrTerm)
	default:
		c.need(false, api.ErrTerm)
	}
}

// typed checks that what stands in one place, or is compared, has one type.
func (c *checker) typed(r api.Rule) {
	types, agree := c.relations.types(r)
	c.need(agree, api.ErrType)
	for s, t := range terms(r) {
		if s.arg >= 0 && t.Kind == api.TConst {
			c.need(typeOf(t, nil) == c.relations.at(s), api.ErrType)
		}
	}
	for _, l := range r.Body {
		if l.Kind == api.LCmp {
			a, b := typeOf(l.A, types), typeOf(l.B, types)
			c.need(a == 0 || b == 0 || a == b, api.ErrType)
		}
	}
}
