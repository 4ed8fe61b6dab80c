package parse

import (
	"slices"

	"pedigree/api"
)

// Same tells whether two programs are alike.
func Same(a, b api.Program) bool {
	return slices.EqualFunc(a.Decls, b.Decls, sameDecl) &&
		slices.EqualFunc(a.Ons, b.Ons, sameOn) &&
		slices.EqualFunc(a.Rules, b.Rules, SameRule)
}

// SameRule tells whether two rules are.
func SameRule(a, b api.Rule) bool {
	return SameAtom(a.Head, b.Head) && slices.EqualFunc(a.Body, b.Body, sameLiteral)
}

// SameAtom tells whether two atoms are.
func SameAtom(a, b api.Atom) bool {
	return a.Pred == b.Pred && slices.Equal(a.Args, b.Args)
}

func sameLiteral(a, b api.Literal) bool {
	return a.Kind == b.Kind && SameAtom(a.Atom, b.Atom) && a.Op == b.Op && a.A == b.A && a.B == b.B
}

func sameDecl(a, b api.Decl) bool {
	return a.Name == b.Name && a.Base == b.Base && slices.Equal(a.Types, b.Types)
}

func sameOn(a, b api.On) bool {
	return a.Event == b.Event && slices.Equal(a.Params, b.Params) && slices.EqualFunc(a.Acts, b.Acts, sameAct)
}

func sameAct(a, b api.Act) bool {
	return a.Plus == b.Plus && SameAtom(a.Atom, b.Atom)
}
