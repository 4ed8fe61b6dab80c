package parse

import "pedigree/api"

// reader reads one part of a program after the other. At the first token that does not fit it panics, for whole to recover.
type reader struct {
	rest
}

// list reads parts with commas between them, at least one.
func list[T any](r *reader, part func() T) []T {
	l := []T{part()}
	for r.may(",") {
		l = append(l, part())
	}
	return l
}

// enclosed reads ( and ), and what is between them, if anything is.
func (r *reader) enclosed(inside func()) {
	r.must("(")
	if !r.may(")") {
		inside()
		r.must(")")
	}
}

func (r *reader) program() api.Program {
	var p api.Program
	for len(r.words) > 0 {
		switch r.next().Text {
		case "base", "view":
			p.Decls = append(p.Decls, r.decl())
		case "on":
			p.Ons = append(p.Ons, r.on())
		default:
			p.Rules = append(p.Rules, r.rule())
		}
	}
	return p
}

func (r *reader) decl() api.Decl {
	d := api.Decl{Base: r.which("base", "view") == 0, Name: r.name()}
	r.enclosed(func() { d.Types = list(r, r.typed) })
	r.must(".")
	return d
}

func (r *reader) on() api.On {
	r.must("on")
	o := api.On{Event: r.name()}
	r.enclosed(func() { o.Params = list(r, r.param) })
	if r.may(":") {
		o.Acts = list(r, r.act)
	}
	r.must(".")
	return o
}

func (r *reader) rule() api.Rule {
	u := api.Rule{Head: r.atom()}
	if r.may(":-") {
		u.Body = list(r, r.literal)
	}
	r.must(".")
	return u
}

func (r *reader) param() api.Param {
	return api.Param{Name: r.take(r.next().Kind == api.WVar).Text, Type: r.typed()}
}

func (r *reader) act() api.Act {
	return api.Act{Plus: r.which("+", "-") == 0, Atom: r.atom()}
}

func (r *reader) literal() api.Literal {
	if r.may("not") {
		return api.Literal{Kind: api.LNeg, Atom: r.atom()}
	}
	if r.next().Kind == api.WName {
		return api.Literal{Kind: api.LPos, Atom: r.atom()}
	}
	return api.Literal{Kind: api.LCmp, A: r.term(), Op: r.op(), B: r.term()}
}

func (r *reader) atom() api.Atom {
	a := api.Atom{Pred: r.name()}
	r.enclosed(func() { a.Args = list(r, r.term) })
	return a
}

func (r *reader) name() string {
	w := r.next()
	return r.take(w.Kind == api.WName && !reserved(w.Text)).Text
}

// reserved tells whether a word has a meaning of its own, and so names nothing.
func reserved(text string) bool {
	switch text {
	case "base", "view", "on", "not":
		return true
	}
	return false
}

func (r *reader) term() api.Term {
	var t api.Term
	switch w := r.next(); w.Kind {
	case api.WVar:
		t = api.Term{Kind: api.TVar, Name: w.Text}
	case api.WInt, api.WSym:
		t = api.Term{Kind: api.TConst, V: w.V}
	case api.WAny:
		t = api.Term{Kind: api.TAny}
	}
	r.take(t.Kind != 0)
	return t
}

// typed reads the name of a type.
func (r *reader) typed() api.Type {
	return api.TInt + api.Type(r.which("int", "sym"))
}

func (r *reader) op() api.CmpOp {
	return api.CEq + api.CmpOp(r.which("=", "!=", "<", "<=", ">", ">="))
}
