package parse_test

import (
	"math"
	"reflect"
	"testing"

	"pedigree/api"
	"pedigree/parse"
)

// P13.2: Same, SameRule, SameAtom.

// full is a program composed by hand, in which no field of anything is zero, whatever its kind is.
func full() api.Program {
	return api.Program{
		Decls: []api.Decl{{Name: "p", Base: true, Types: []api.Type{1, 2}}, {Name: "q", Base: true, Types: []api.Type{7}}},
		Ons: []api.On{
			{Event: "e", Params: []api.Param{{Name: "A", Type: 1}, {Name: "B", Type: -2}}, Acts: []api.Act{{Plus: true, Atom: fullAtom("p")}, {Plus: true, Atom: fullAtom("q")}}},
			{Event: "f", Params: []api.Param{{Name: "A", Type: 2}}, Acts: []api.Act{{Plus: true, Atom: fullAtom("p")}}},
		},
		Rules: []api.Rule{fullRule("p"), fullRule("q")},
	}
}

func fullAtom(pred string) api.Atom { return atom(pred, fullTerm(1), fullTerm(2)) }

func fullTerm(n int64) api.Term {
	return api.Term{Kind: api.TermKind(n), Name: "X", V: api.Value{Kind: api.VKind(n), N: -n, S: "s"}}
}

func fullRule(pred string) api.Rule {
	return rule(fullAtom(pred),
		api.Literal{Kind: 1, Atom: fullAtom("r"), Op: 3, A: fullTerm(5), B: fullTerm(6)},
		api.Literal{Kind: 9, Atom: fullAtom("s"), Op: 1, A: fullTerm(7), B: fullTerm(8)})
}

// says tells if Same (or SameRule, SameAtom) says anything else, in either order, or alters what it is handed.
func says[T any](t *testing.T, same func(a, b T) bool, a, b T, want bool) {
	t.Helper()
	before, after := copied(a), copied(b)
	if same(a, b) != want || same(b, a) != want {
		t.Errorf("%+v and %+v: not %v", a, b, want)
	}
	if !reflect.DeepEqual(a, before) || !reflect.DeepEqual(b, after) {
		t.Errorf("altered: %+v, %+v", a, b)
	}
}

// copied is a copy down to the last element.
func copied[T any](x T) T {
	v := reflect.New(reflect.TypeOf(x)).Elem()
	v.Set(reflect.ValueOf(x))
	each(v, func(l reflect.Value) {
		if l.Kind() == reflect.Slice && !l.IsNil() {
			m := reflect.MakeSlice(l.Type(), l.Len(), l.Len())
			reflect.Copy(m, l)
			l.Set(m)
		}
	})
	return v.Interface().(T)
}

// each calls a function with a value and everything in it, the outer parts first.
func each(v reflect.Value, call func(reflect.Value)) {
	call(v)
	switch v.Kind() {
	case reflect.Slice:
		for i := range v.Len() {
			each(v.Index(i), call)
		}
	case reflect.Struct:
		for i := range v.NumField() {
			each(v.Field(i), call)
		}
	}
}

// differ tells if values that differ just in one field, or in one list's elements, are held to be the same, and how many such there are.
func differ[T any](t *testing.T, same func(a, b T) bool, x T) int {
	t.Helper()
	n := 0
	y := copied(x)
	v := reflect.ValueOf(&y).Elem()
	with := func(part, other reflect.Value) {
		was := reflect.New(part.Type()).Elem()
		was.Set(part)
		part.Set(other)
		says(t, same, x, y, false)
		part.Set(was)
		n++
	}
	each(v, func(part reflect.Value) {
		for _, other := range others(part) {
			with(part, other)
		}
	})
	says(t, same, x, y, true)
	return n
}

// others are values that differ from a field's, or from a list's.
func others(v reflect.Value) []reflect.Value {
	of := func(l ...any) []reflect.Value {
		var m []reflect.Value
		for _, x := range l {
			m = append(m, reflect.ValueOf(x).Convert(v.Type()))
		}
		return m
	}
	switch v.Kind() {
	case reflect.Bool:
		return of(!v.Bool())
	case reflect.String:
		return of("", v.String()+"x", v.String()+"\x00", "\xff")
	case reflect.Int, reflect.Int64:
		return of(int64(0), v.Int()+1, -v.Int(), math.MinInt64, math.MaxInt64)
	case reflect.Slice:
		n := v.Len()
		more := reflect.MakeSlice(v.Type(), n, n+1)
		reflect.Copy(more, v)
		none := reflect.Zero(v.Type())
		l := []reflect.Value{none, v.Slice(0, n-1), v.Slice(1, n), reflect.Append(more, reflect.Zero(v.Type().Elem())), reflect.Append(more, v.Index(0))}
		if n > 1 {
			turned := reflect.AppendSlice(none, v.Slice(1, n))
			l = append(l, reflect.Append(turned, v.Index(0)))
		}
		return l
	}
	return nil
}

func TestSameFields(t *testing.T) { // P13.2
	n := differ(t, parse.Same, full())
	m := differ(t, parse.SameRule, fullRule("p"))
	k := differ(t, parse.SameAtom, fullAtom("p"))
	if n < 800 || m < 250 || k < 50 {
		t.Errorf("%d, %d, %d values", n, m, k)
	}
}

// TestSameZeros: fields that have no meaning count, too.
func TestSameZeros(t *testing.T) { // P13.2
	says(t, parse.SameAtom, api.Atom{}, api.Atom{}, true)
	says(t, parse.SameRule, api.Rule{}, api.Rule{}, true)
	says(t, parse.Same, api.Program{}, api.Program{}, true)
	says(t, parse.SameAtom, atom("p", anything()), atom("p", api.Term{Kind: api.TAny, Name: "X"}), false)
	says(t, parse.SameAtom, atom("p", variable("X")), atom("p", api.Term{Kind: api.TVar, Name: "X", V: api.Value{N: 1}}), false)
	says(t, parse.SameAtom, atom("p", num(1)), atom("p", api.Term{Kind: api.TConst, V: api.Value{Kind: api.VInt, N: 1, S: "1"}}), false)
	says(t, parse.SameAtom, atom("p", num(0)), atom("p", sym("")), false)
	says(t, parse.SameAtom, atom("p", api.Term{}), atom("p"), false)
	says(t, parse.SameAtom, atom("p"), atom("P"), false)
	says(t, parse.SameRule, rule(atom("p"), pos(atom("q"))), rule(atom("p"), neg(atom("q"))), false)
	says(t, parse.SameRule, rule(atom("p"), pos(atom("q"))), rule(atom("p"), api.Literal{Kind: api.LPos, Atom: atom("q"), Op: api.CEq}), false)
	says(t, parse.SameRule, rule(atom("p"), compared(variable("X"), 1, variable("Y"))), rule(atom("p"), compared(variable("Y"), 1, variable("X"))), false)
	says(t, parse.SameRule, rule(atom("p"), compared(variable("X"), 1, variable("Y"))), rule(atom("p"), api.Literal{Kind: api.LCmp, Op: 1, A: variable("X"), B: variable("Y"), Atom: atom("p")}), false)
	says(t, parse.SameRule, rule(atom("p"), api.Literal{}), rule(atom("p")), false)
	says(t, parse.Same, rules(rule(atom("p")), rule(atom("q"))), rules(rule(atom("q")), rule(atom("p"))), false)
	says(t, parse.Same, rules(api.Rule{}), api.Program{}, false)
	says(t, parse.Same, ons(api.On{}), api.Program{}, false)
	says(t, parse.Same, decls(api.Decl{}), api.Program{}, false)
	says(t, parse.Same, decls(api.Decl{Name: "p"}), decls(api.Decl{Name: "p", Base: true}), false)
	says(t, parse.Same, ons(api.On{Acts: []api.Act{{Plus: true}}}), ons(api.On{Acts: []api.Act{{}}}), false)
}

// TestSameNil: nil and empty lists are the same, wherever they are.
func TestSameNil(t *testing.T) { // P13.2
	none := []api.Term{}
	says(t, parse.SameAtom, api.Atom{Pred: "p"}, api.Atom{Pred: "p", Args: none}, true)
	says(t, parse.SameAtom, api.Atom{Pred: "p"}, api.Atom{Pred: "p", Args: fullAtom("p").Args[:0]}, true)
	says(t, parse.SameRule, api.Rule{}, api.Rule{Head: api.Atom{Args: none}, Body: []api.Literal{}}, true)
	says(t, parse.SameRule, api.Rule{Body: []api.Literal{{}}}, api.Rule{Body: []api.Literal{{Atom: api.Atom{Args: none}}}}, true)
	says(t, parse.Same, api.Program{}, api.Program{Decls: []api.Decl{}, Ons: []api.On{}, Rules: []api.Rule{}}, true)
	says(t, parse.Same, api.Program{Decls: []api.Decl{}}, api.Program{Rules: []api.Rule{}}, true)
	says(t, parse.Same, decls(api.Decl{}), decls(api.Decl{Types: []api.Type{}}), true)
	says(t, parse.Same, ons(api.On{}), ons(api.On{Params: []api.Param{}, Acts: []api.Act{}}), true)
	says(t, parse.Same, ons(api.On{Acts: []api.Act{{}}}), ons(api.On{Acts: []api.Act{{Atom: api.Atom{Args: none}}}}), true)
	says(t, parse.Same, rules(rule(atom("p"), pos(atom("q")))), rules(api.Rule{Head: api.Atom{Pred: "p", Args: none}, Body: []api.Literal{{Kind: api.LPos, Atom: api.Atom{Pred: "q", Args: none}}}}), true)
}

// TestSameParsed: texts that mean the same, and ones that do not.
func TestSameParsed(t *testing.T) { // P13.2
	p, _, _ := parse.Program("p(X) :- q(X). base q(int).")
	q, _, _ := parse.Program("base q ( int ) . p ( X ) :- q ( X ) .")
	r, _, _ := parse.Program("base q(int). p(X) :- q(Y).")
	says(t, parse.Same, p, q, true)
	says(t, parse.Same, p, r, false)
	says(t, parse.SameRule, p.Rules[0], q.Rules[0], true)
	says(t, parse.SameRule, p.Rules[0], r.Rules[0], false)
	says(t, parse.SameAtom, p.Rules[0].Head, r.Rules[0].Head, true)
	says(t, parse.SameAtom, p.Rules[0].Body[0].Atom, r.Rules[0].Body[0].Atom, false)
}

// TestSameMany: lists of any length, with the difference at their end.
func TestSameMany(t *testing.T) { // P13.2
	a, b := slicesOf(1<<16, fullTerm(1)), slicesOf(1<<16, fullTerm(1))
	says(t, parse.SameAtom, atom("p", a...), atom("p", b...), true)
	b[len(b)-1].V.S = "t"
	says(t, parse.SameAtom, atom("p", a...), atom("p", b...), false)
	says(t, parse.SameAtom, atom("p", a...), atom("p", a[1:]...), false)
	l, m := slicesOf(1<<12, fullRule("p")), slicesOf(1<<12, fullRule("p"))
	says(t, parse.Same, rules(l...), rules(m...), true)
	m[len(m)-1] = fullRule("q")
	says(t, parse.Same, rules(l...), rules(m...), false)
}
