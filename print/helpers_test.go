package print_test

import (
	"fmt"
	"reflect"
	"testing"

	"pedigree/api"
	"pedigree/print"
)

func variable(s string) api.Term { return api.Term{Kind: api.TVar, Name: s} }

func constant(v api.Value) api.Term { return api.Term{Kind: api.TConst, V: v} }

func num(n int64) api.Term { return constant(api.Value{Kind: api.VInt, N: n}) }

func sym(s string) api.Term { return constant(api.Value{Kind: api.VSym, S: s}) }

func anything() api.Term { return api.Term{Kind: api.TAny} }

func atom(pred string, l ...api.Term) api.Atom { return api.Atom{Pred: pred, Args: l} }

func pos(a api.Atom) api.Literal { return api.Literal{Kind: api.LPos, Atom: a} }

func neg(a api.Atom) api.Literal { return api.Literal{Kind: api.LNeg, Atom: a} }

func compared(a api.Term, op api.CmpOp, b api.Term) api.Literal {
	return api.Literal{Kind: api.LCmp, Op: op, A: a, B: b}
}

func rule(head api.Atom, l ...api.Literal) api.Rule { return api.Rule{Head: head, Body: l} }

func base(name string, l ...api.Type) api.Decl { return api.Decl{Name: name, Base: true, Types: l} }

func view(name string, l ...api.Type) api.Decl { return api.Decl{Name: name, Types: l} }

func params(l ...api.Param) []api.Param { return l }

func param(name string, t api.Type) api.Param { return api.Param{Name: name, Type: t} }

func on(event string, l []api.Param, acts ...api.Act) api.On {
	return api.On{Event: event, Params: l, Acts: acts}
}

func plus(a api.Atom) api.Act { return api.Act{Plus: true, Atom: a} }

func minus(a api.Atom) api.Act { return api.Act{Atom: a} }

// part is a part of a program of any kind that a function of the package prints.
type part any

// printed is what the function for a part's kind answers.
func printed(x part) (string, api.Errno) {
	switch x := x.(type) {
	case api.Term:
		return print.Term(x)
	case api.Atom:
		return print.Atom(x)
	case api.Literal:
		return print.Literal(x)
	case api.Rule:
		return print.Rule(x)
	case api.Decl:
		return print.Decl(x)
	case api.On:
		return print.On(x)
	case api.Program:
		return print.Program(x)
	}
	panic(fmt.Sprintf("no part: %T", x))
}

// is tells if a part has another text, or is altered by that.
func is(t *testing.T, x part, want string) {
	t.Helper()
	before := copied(x)
	if s, e := printed(x); s != want || e != api.OK {
		t.Errorf("of %+v: %.200q, %d, want %.200q", x, s, e, want)
	}
	if !reflect.DeepEqual(x, before) {
		t.Errorf("altered: %+v, was %+v", x, before)
	}
}

// none tells if a part has a text, or if there is anything beside its error.
func none(t *testing.T, x part) {
	t.Helper()
	fails(t, x, 140)
}

func fails(t *testing.T, x part, errno api.Errno) {
	t.Helper()
	before := copied(x)
	if s, e := printed(x); s != "" || e != errno {
		t.Errorf("of %.500s: %.200q, %d, want error %d", fmt.Sprintf("%+v", x), s, e, errno)
	}
	if !reflect.DeepEqual(x, before) {
		t.Errorf("altered: %+v, was %+v", x, before)
	}
}

// copied is a copy down to the last element; nil stays nil.
func copied(x part) part { return copyOf(reflect.ValueOf(x)).Interface() }

func copyOf(v reflect.Value) reflect.Value {
	to := reflect.New(v.Type()).Elem()
	to.Set(v)
	switch v.Kind() {
	case reflect.Slice:
		if !v.IsNil() {
			to.Set(reflect.MakeSlice(v.Type(), v.Len(), v.Len()))
		}
		for i := range v.Len() {
			to.Index(i).Set(copyOf(v.Index(i)))
		}
	case reflect.Struct:
		for i := range v.NumField() {
			to.Field(i).Set(copyOf(v.Field(i)))
		}
	}
	return to
}

// equal tells whether all fields are equal. nil and empty slices are.
func equal(a, b part) bool { return equals(reflect.ValueOf(a), reflect.ValueOf(b)) }

func equals(a, b reflect.Value) bool {
	switch a.Kind() {
	case reflect.Slice:
		if a.Len() != b.Len() {
			return false
		}
		for i := range a.Len() {
			if !equals(a.Index(i), b.Index(i)) {
				return false
			}
		}
		return true
	case reflect.Struct:
		for i := range a.NumField() {
			if !equals(a.Field(i), b.Field(i)) {
				return false
			}
		}
		return true
	}
	return a.Interface() == b.Interface()
}

// whole is a part inside everything that may hold one of its kind, up to programs, and the part itself.
func whole(x part) []part {
	l := []part{x}
	switch x := x.(type) {
	case api.Term:
		l = append(l, whole(atom("p", num(1), x, num(2)))...)
		for op := api.CEq; op <= api.CGe; op++ {
			l = append(l, whole(compared(x, op, num(1)))...)
			l = append(l, whole(compared(num(1), op, x))...)
		}
	case api.Atom:
		l = append(l, whole(pos(x))...)
		l = append(l, whole(neg(x))...)
		l = append(l, whole(rule(x))...)
		l = append(l, whole(rule(x, pos(atom("q"))))...)
		l = append(l, whole(on("e", nil, plus(x)))...)
		l = append(l, whole(on("e", nil, minus(atom("q")), minus(x), plus(atom("r"))))...)
	case api.Literal:
		l = append(l, whole(rule(atom("p"), x))...)
		l = append(l, whole(rule(atom("p"), pos(atom("q")), x, neg(atom("r"))))...)
	case api.Rule:
		l = append(l, api.Program{Rules: []api.Rule{x}}, api.Program{Decls: []api.Decl{base("p")}, Rules: []api.Rule{rule(atom("p")), x, rule(atom("q"))}})
	case api.Decl:
		l = append(l, api.Program{Decls: []api.Decl{x}}, api.Program{Decls: []api.Decl{view("p"), x, base("q")}, Ons: []api.On{on("e", nil)}, Rules: []api.Rule{rule(atom("p"))}})
	case api.On:
		l = append(l, api.Program{Ons: []api.On{x}}, api.Program{Decls: []api.Decl{view("p")}, Ons: []api.On{on("e", nil), x, on("f", nil)}, Rules: []api.Rule{rule(atom("p"))}})
	}
	return l
}
