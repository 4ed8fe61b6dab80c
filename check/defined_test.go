package check_test

import (
	"regexp"
	"slices"
	"testing"

	"pedigree/api"
	"pedigree/check"
)

// The document's definitions, written out once more and in another way: all checks are done, whether others failed or not, and the first that failed counts.

type verdict struct {
	at api.Clause
	e  api.Errno
}

// verdicts are the checks that failed, in the document's order.
type verdicts struct {
	at  api.Clause
	all []verdict
}

func (v *verdicts) fail(is bool, e api.Errno) {
	if is {
		v.all = append(v.all, verdict{v.at, e})
	}
}

func defined(p api.Program) (api.Clause, api.Errno) {
	v := &verdicts{}
	v.fail(len(p.Decls) > 64 || len(p.Ons) > 64 || len(p.Rules) > 256, 3)
	for i, d := range p.Decls {
		v.at = api.Clause{Kind: 1, I: i}
		v.fail(!isName(d.Name) || slices.ContainsFunc(p.Decls[:i], func(x api.Decl) bool { return x.Name == d.Name }), 150)
		v.fail(len(d.Types) > 8 || slices.ContainsFunc(d.Types, isNoType), 151)
	}
	for i, o := range p.Ons {
		v.at = api.Clause{Kind: 2, I: i}
		v.fail(!isName(o.Event) || slices.ContainsFunc(p.Ons[:i], func(x api.On) bool { return x.Event == o.Event }), 150)
		v.on(p, o)
	}
	for i, r := range p.Rules {
		v.at = api.Clause{Kind: 3, I: i}
		v.rule(p, r)
	}
	if len(v.all) == 0 {
		return api.Clause{}, 0
	}
	return v.all[0].at, v.all[0].e
}

func (v *verdicts) on(p api.Program, o api.On) {
	v.fail(len(o.Params) > 8, 152)
	for i, q := range o.Params {
		v.fail(!isVar(q.Name) || isNoType(q.Type), 152)
		v.fail(slices.ContainsFunc(o.Params[:i], func(x api.Param) bool { return x.Name == q.Name }), 152)
	}
	v.fail(len(o.Acts) > 16, 3)
	for _, a := range o.Acts {
		d, is := definedFind(p, a.Atom.Pred)
		v.fail(!is || !d.Base, 153)
		v.fail(len(d.Types) != len(a.Atom.Args), 154)
		for i, x := range a.Atom.Args {
			k := slices.IndexFunc(o.Params, func(q api.Param) bool { return q.Name == x.Name })
			v.fail(!isTerm(x) || x.Kind == 3 || x.Kind == 1 && k < 0, 155)
			v.fail(x.Kind == 1 && k >= 0 && !isAt(d, i, o.Params[k].Type), 156)
			v.fail(x.Kind == 2 && !isAt(d, i, api.Type(x.V.Kind)), 156)
		}
	}
}

func (v *verdicts) rule(p api.Program, r api.Rule) {
	v.fail(len(r.Body) > 16, 3)
	d, is := definedFind(p, r.Head.Pred)
	v.fail(!is || d.Base, 153)
	v.fail(len(d.Types) != len(r.Head.Args), 154)
	v.fail(slices.ContainsFunc(r.Head.Args, func(x api.Term) bool { return !isTerm(x) || x.Kind == 3 }), 155)
	for _, l := range r.Body {
		d, is := definedFind(p, l.Atom.Pred)
		switch atom := l.Kind == 1 || l.Kind == 2; {
		case atom:
			v.fail(l.Op != 0 || l.A != api.Term{} || l.B != api.Term{}, 155)
			v.fail(!is, 153)
			v.fail(len(d.Types) != len(l.Atom.Args), 154)
			v.fail(slices.ContainsFunc(l.Atom.Args, func(x api.Term) bool { return !isTerm(x) }), 155)
		case l.Kind == 3:
			v.fail(l.Op < 1 || l.Op > 6 || !isTerm(l.A) || !isTerm(l.B) || l.A.Kind == 3 || l.B.Kind == 3, 155)
			v.fail(l.Atom.Pred != "" || len(l.Atom.Args) > 0, 155)
		default:
			v.fail(true, 155)
		}
	}
	v.types(p, r)
	v.fail(len(definedVars(r)) > 16, 157)
	v.fail(len(definedBound(r)) != len(definedVars(r)), 158)
}

func (v *verdicts) types(p api.Program, r api.Rule) {
	l := placesOf(p, r)
	for _, a := range l {
		v.fail(a.term.Kind == 2 && a.declared != 0 && a.declared != api.Type(a.term.V.Kind), 156)
		for _, b := range l {
			v.fail(a.conflicts(b), 156)
		}
	}
	side := func(x api.Term) []api.Type {
		if x.Kind == 2 {
			return []api.Type{api.Type(x.V.Kind)}
		}
		var all []api.Type
		for _, a := range l {
			if a.term.Kind == 1 && a.term.Name == x.Name && a.declared != 0 {
				all = append(all, a.declared)
			}
		}
		return all
	}
	for _, c := range r.Body {
		a, b := side(c.A), side(c.B)
		v.fail(c.Kind == 3 && len(a) > 0 && len(b) > 0 && a[0] != b[0], 156)
	}
}

// place is a term of an atom, with the type that is declared there, or 0.
type place struct {
	term     api.Term
	declared api.Type
}

func (a place) conflicts(b place) bool {
	return a.term.Kind == 1 && b.term.Kind == 1 && a.term.Name == b.term.Name && a.declared != 0 && b.declared != 0 && a.declared != b.declared
}

func placesOf(p api.Program, r api.Rule) []place {
	var l []place
	add := func(a api.Atom) {
		d, _ := definedFind(p, a.Pred)
		for i, x := range a.Args {
			is := api.Type(0)
			if i < len(d.Types) && !isNoType(d.Types[i]) {
				is = d.Types[i]
			}
			l = append(l, place{x, is})
		}
	}
	add(r.Head)
	for _, c := range r.Body {
		add(c.Atom)
	}
	return l
}

func definedFind(p api.Program, name string) (api.Decl, bool) {
	i := slices.IndexFunc(p.Decls, func(d api.Decl) bool { return d.Name == name })
	if i < 0 {
		return api.Decl{}, false
	}
	return p.Decls[i], true
}

func definedVars(r api.Rule) []string {
	all := slices.Clone(r.Head.Args)
	for _, l := range r.Body {
		all = append(append(all, l.Atom.Args...), l.A, l.B)
	}
	var names []string
	for _, x := range all {
		if x.Kind == 1 && !slices.Contains(names, x.Name) {
			names = append(names, x.Name)
		}
	}
	return names
}

func definedBound(r api.Rule) []string {
	return slices.DeleteFunc(definedVars(r), func(s string) bool {
		is := func(x api.Term) bool { return x.Kind == 1 && x.Name == s }
		return !slices.ContainsFunc(r.Body, func(l api.Literal) bool {
			return l.Kind == 1 && (slices.ContainsFunc(l.Atom.Args, is) || is(l.A) || is(l.B))
		})
	})
}

func definedTypes(p api.Program, r api.Rule) ([]api.Type, api.Errno) {
	l := placesOf(p, r)
	var types []api.Type
	for _, s := range definedVars(r) {
		types = append(types, 0)
		for _, a := range slices.Backward(l) {
			if a.term.Kind == 1 && a.term.Name == s && a.declared != 0 {
				types[len(types)-1] = a.declared
			}
			if slices.ContainsFunc(l, a.conflicts) {
				return nil, 156
			}
		}
	}
	return types, 0
}

// isAt is whether a declaration has this type there; where it has none, another check has failed.
func isAt(d api.Decl, i int, t api.Type) bool {
	return i >= len(d.Types) || d.Types[i] == t
}

func isNoType(t api.Type) bool { return t != 1 && t != 2 }

var (
	nameForm = regexp.MustCompile(`\A[a-z][a-zA-Z0-9_]{0,63}\z`)
	varForm  = regexp.MustCompile(`\A[A-Z][a-zA-Z0-9_]{0,63}\z`)
	reserved = regexp.MustCompile(`\A(base|view|on|not)\z`)
)

func isName(s string) bool { return nameForm.MatchString(s) && !reserved.MatchString(s) }

func isVar(s string) bool { return varForm.MatchString(s) }

func isTerm(x api.Term) bool {
	switch x.Kind {
	case 1:
		return isVar(x.Name) && x.V == api.Value{}
	case 2:
		return x.Name == "" && (x.V.Kind == 1 && x.V.S == "" || x.V.Kind == 2 && x.V.N == 0 && len(x.V.S) <= 256)
	}
	return x == api.Term{Kind: 3}
}

// likeDefined asks all functions of the package about a program and its rules.
func likeDefined(t *testing.T, p api.Program) {
	t.Helper()
	at, e := defined(p)
	if is, f := check.Program(p); is != at || f != e {
		t.Errorf("%+v: %+v, %d instead of %+v, %d", p, is, f, at, e)
	}
	for _, r := range p.Rules {
		rulesLikeDefined(t, p, r)
	}
	for _, s := range append(namesIn(p), "nobody", "") {
		a, is := check.Find(p, s)
		if b, there := definedFind(p, s); is != there || !alike(a, b) {
			t.Errorf("Find(%+v, %q) = %+v, %v instead of %+v, %v", p, s, a, is, b, there)
		}
	}
}

func namesIn(p api.Program) []string {
	var l []string
	for _, d := range p.Decls {
		l = append(l, d.Name)
	}
	return l
}

func rulesLikeDefined(t *testing.T, p api.Program, r api.Rule) {
	t.Helper()
	if a, b := check.Vars(r), definedVars(r); !slices.Equal(a, b) {
		t.Errorf("Vars(%+v) = %q instead of %q", r, a, b)
	}
	if a, b := check.Bound(r), definedBound(r); !slices.Equal(a, b) {
		t.Errorf("Bound(%+v) = %q instead of %q", r, a, b)
	}
	a, e := check.Types(p, r)
	if b, f := definedTypes(p, r); e != f || !slices.Equal(a, b) {
		t.Errorf("Types(%+v, %+v) = %v, %d instead of %v, %d", p, r, a, e, b, f)
	}
}
