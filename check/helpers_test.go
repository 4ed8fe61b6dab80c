package check_test

import (
	"reflect"
	"testing"

	"pedigree/api"
	"pedigree/check"
	"pedigree/parse"
)

func variable(s string) api.Term { return api.Term{Kind: api.TVar, Name: s} }

func constant(v api.Value) api.Term { return api.Term{Kind: api.TConst, V: v} }

func num(n int64) api.Term { return constant(api.Value{Kind: api.VInt, N: n}) }

func sym(s string) api.Term { return constant(api.Value{Kind: api.VSym, S: s}) }

func anything() api.Term { return api.Term{Kind: api.TAny} }

func atom(pred string, l ...api.Term) api.Atom { return api.Atom{Pred: pred, Args: l} }

func pos(a api.Atom) api.Literal { return api.Literal{Kind: api.LPos, Atom: a} }

func neg(a api.Atom) api.Literal { return api.Literal{Kind: api.LNeg, Atom: a} }

func compared(a api.Term, op api.CmpOp, b api.Term) api.Literal {
	return api.Literal{Kind: api.LCmp, Op: op, A: a, B: b}
}

func base(name string, l ...api.Type) api.Decl { return api.Decl{Name: name, Base: true, Types: l} }

func view(name string, l ...api.Type) api.Decl { return api.Decl{Name: name, Types: l} }

func param(name string, t api.Type) api.Param { return api.Param{Name: name, Type: t} }

func program(t *testing.T, text string) api.Program {
	t.Helper()
	p, at, e := parse.Program(text)
	if e != api.OK {
		t.Fatalf("%q: %d at %d", text, e, at)
	}
	return p
}

func rule(t *testing.T, text string) api.Rule {
	t.Helper()
	r, at, e := parse.Rule(text)
	if e != api.OK {
		t.Fatalf("%q: %d at %d", text, e, at)
	}
	return r
}

// refused asks for a program's clause and error.
func refused(t *testing.T, what string, p api.Program, at api.Clause, e api.Errno) {
	t.Helper()
	if is, f := check.Program(p); f != e || is != at {
		t.Errorf("%s: %+v, %d instead of %+v, %d", what, is, f, at, e)
	}
}

func valid(t *testing.T, what string, p api.Program) {
	t.Helper()
	refused(t, what, p, api.Clause{}, api.OK)
}

// alike is whether two parts are equal, where nil and empty lists are.
func alike(a, b any) bool {
	return same(reflect.ValueOf(a), reflect.ValueOf(b))
}

func same(a, b reflect.Value) bool {
	switch a.Kind() {
	case reflect.Struct:
		for i := range a.NumField() {
			if !same(a.Field(i), b.Field(i)) {
				return false
			}
		}
		return true
	case reflect.Slice:
		if a.Len() != b.Len() {
			return false
		}
		for i := range a.Len() {
			if !same(a.Index(i), b.Index(i)) {
				return false
			}
		}
		return true
	}
	return a.Interface() == b.Interface()
}

// copied is a part that shares nothing with the one it was made of.
func copied[T any](x T) T {
	v := reflect.New(reflect.TypeOf(x)).Elem()
	v.Set(copyOf(reflect.ValueOf(x)))
	return v.Interface().(T)
}

func copyOf(v reflect.Value) reflect.Value {
	c := reflect.New(v.Type()).Elem()
	switch v.Kind() {
	case reflect.Struct:
		for i := range v.NumField() {
			c.Field(i).Set(copyOf(v.Field(i)))
		}
	case reflect.Slice:
		if v.IsNil() {
			return c
		}
		c.Set(reflect.MakeSlice(v.Type(), v.Len(), v.Len()))
		for i := range v.Len() {
			c.Index(i).Set(copyOf(v.Index(i)))
		}
	default:
		c.Set(v)
	}
	return c
}
