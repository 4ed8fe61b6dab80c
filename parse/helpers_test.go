package parse_test

import (
	"math/rand"
	"reflect"
	"testing"

	"pedigree/api"
	"pedigree/lex"
	"pedigree/parse"
)

func variable(s string) api.Term { return api.Term{Kind: api.TVar, Name: s} }

func num(n int64) api.Term {
	return api.Term{Kind: api.TConst, V: api.Value{Kind: api.VInt, N: n}}
}

func sym(s string) api.Term {
	return api.Term{Kind: api.TConst, V: api.Value{Kind: api.VSym, S: s}}
}

func anything() api.Term { return api.Term{Kind: api.TAny} }

func atom(pred string, l ...api.Term) api.Atom { return api.Atom{Pred: pred, Args: l} }

func pos(a api.Atom) api.Literal { return api.Literal{Kind: api.LPos, Atom: a} }

func neg(a api.Atom) api.Literal { return api.Literal{Kind: api.LNeg, Atom: a} }

func compared(a api.Term, op api.CmpOp, b api.Term) api.Literal {
	return api.Literal{Kind: api.LCmp, Op: op, A: a, B: b}
}

func rule(head api.Atom, l ...api.Literal) api.Rule { return api.Rule{Head: head, Body: l} }

func rules(l ...api.Rule) api.Program { return api.Program{Rules: l} }

func decls(l ...api.Decl) api.Program { return api.Program{Decls: l} }

func ons(l ...api.On) api.Program { return api.Program{Ons: l} }

// parser is Program, Rule or Atom.
type parser[T any] func(string) (T, int, api.Errno)

// gives tells if a text has another meaning.
func gives[T any](t *testing.T, p parser[T], s string, want T) {
	t.Helper()
	if x, at, e := p(s); !equal(x, want) || at != 0 || e != api.OK {
		t.Errorf("of %.200q: %+v, %d, %d, want %+v", s, x, at, e, want)
	}
}

// fails tells if a text has a meaning, or another error, or one elsewhere.
func fails[T any](t *testing.T, p parser[T], s string, want int, errno api.Errno) {
	t.Helper()
	var none T
	if x, at, e := p(s); !equal(x, none) || at != want || e != errno {
		t.Errorf("of %.200q: %+v, %d, %d, want error %d at %d", s, x, at, e, errno, want)
	}
}

// misfits tells if a text is a program (rule, atom), or if another token than that at an offset is the first that does not fit.
func misfits[T any](t *testing.T, p parser[T], s string, want int) {
	t.Helper()
	fails(t, p, s, want, 130)
}

// equal tells whether all fields are equal. nil and empty slices are.
func equal(a, b any) bool { return equals(reflect.ValueOf(a), reflect.ValueOf(b)) }

func equals(a, b reflect.Value) bool {
	switch a.Kind() {
	case reflect.Slice:
		if a.Len() != b.Len() {
			return false
		}
		for i := range a.Len() {
			if !equals(a.Index(i), b.Index(i)) {
				return false
			}
		}
		return true
	case reflect.Struct:
		for i := range a.NumField() {
			if !equals(a.Field(i), b.Field(i)) {
				return false
			}
		}
		return true
	}
	return a.Interface() == b.Interface()
}

// all calls a function with the three parsers, the grammar's name of what they parse, and whether they take a text.
func all(s string, each func(kind string, zero bool, at int, e api.Errno)) {
	p, at, e := parse.Program(s)
	each("program", equal(p, api.Program{}), at, e)
	r, at, e := parse.Rule(s)
	each("rule", equal(r, api.Rule{}), at, e)
	a, at, e := parse.Atom(s)
	each("atom", equal(a, api.Atom{}), at, e)
}

// tokens is one of each kind, and of each that the grammar names.
func tokens() []string {
	return []string{
		"base", "view", "on", "not", "int", "sym", "p", "X", "_", "7", "-3", `"a"`,
		"(", ")", ",", ".", ":", ":-", "+", "-", "=", "!=", "<", "<=", ">", ">=",
	}
}

// spaced are tokens with a gap of one space between any two.
func spaced(l []string) string {
	var b []byte
	for i, s := range l {
		if i > 0 {
			b = append(b, ' ')
		}
		b = append(b, s...)
	}
	return string(b)
}

// gaps are what may stand between two tokens.
func gaps() []string {
	return []string{" ", " ", "\n", "\t", "\r", "\r\n", "  \n\t ", "% c\n", " %\n", "% p(X) :- q(X). \"\xff\n", "\n%%\n  "}
}

// drawnText are tokens with gaps between them, and none where none is needed.
func drawnText(r *rand.Rand, l []string) string {
	var b []byte
	for i, s := range l {
		if i > 0 && (r.Intn(2) == 0 || joins(l[i-1], s)) {
			b = append(b, gaps()[r.Intn(len(gaps()))]...)
		}
		b = append(b, s...)
	}
	return string(b)
}

// joins tells whether two tokens are others where no gap is between them.
func joins(a, b string) bool {
	l, _, e := lex.Words(a + b)
	return e != api.OK || len(l) != 2 || l[0].Text != a || l[1].Text != b
}
