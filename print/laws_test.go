package print_test

import (
	"reflect"
	"strings"
	"testing"

	"pedigree/api"
	"pedigree/lex"
	"pedigree/parse"
)

// P14.2 to P14.4: the consequences.

// hasTokens tells if the text of a part has no tokens though it is not too long, or others than those of which it is made.
func hasTokens(t *testing.T, x part) {
	t.Helper()
	s, e := printed(x)
	if e != api.OK || len(s) > api.MaxText {
		t.Errorf("of %+v: %d bytes, %d", x, len(s), e)
		return
	}
	l, at, e := lex.Words(s)
	if at != 0 || e != api.OK {
		t.Errorf("of %+v: %q has no token at %d, %d", x, s, at, e)
	}
	n := 0
	for _, w := range l {
		n += len(w.Text)
	}
	if n+strings.Count(s, " ")+strings.Count(s, "\n") < len(s) {
		t.Errorf("of %+v: %q has a comment", x, s)
	}
}

func TestTextsHaveTokens(t *testing.T) { // P14.2
	d := drawing(2)
	for range 3000 {
		for _, x := range d.parts() {
			hasTokens(t, x)
		}
	}
	for i := range 256 {
		c := string([]byte{byte(i)})
		for _, s := range []string{c, c + c, `\` + c, c + `\`, `"` + c, c + `"`, "a" + c + "0"} {
			for _, x := range whole(sym(s)) {
				hasTokens(t, x)
			}
		}
	}
	for _, x := range []api.Term{variable("X"), anything(), num(0), num(7), num(-3), num(-1 << 63), sym(""), sym("-")} {
		for _, y := range whole(x) {
			hasTokens(t, y)
		}
	}
}

// comesBack tells if the text of a part is not that part again.
func comesBack[T any](t *testing.T, x T, read func(string) (T, int, api.Errno), same func(a, b T) bool) {
	t.Helper()
	s, e := printed(x)
	if e != api.OK {
		t.Errorf("of %+v: %d", x, e)
		return
	}
	y, at, e := read(s)
	if at != 0 || e != api.OK || !same(x, y) || !equal(x, y) {
		t.Errorf("of %q: %+v, %d, %d, want %+v", s, y, at, e, x)
	}
	if again, e := printed(y); again != s || e != api.OK {
		t.Errorf("of %q: %q, %d", s, again, e)
	}
}

func TestProgramsComeBack(t *testing.T) { // P14.3
	comesBack(t, api.Program{}, parse.Program, parse.Same)
	d := drawing(3)
	for range 3000 {
		comesBack(t, d.program(), parse.Program, parse.Same)
		comesBack(t, d.rule(), parse.Rule, parse.SameRule)
		comesBack(t, d.atom(), parse.Atom, parse.SameAtom)
		comesBack(t, api.Program{Rules: []api.Rule{rule(d.atom(), d.literal())}}, parse.Program, parse.Same)
	}
	for i := range 256 {
		c := string([]byte{byte(i)})
		comesBack(t, atom("p", sym(c), sym(c+`"`), sym(`\`+c), anything()), parse.Atom, parse.SameAtom)
	}
}

// TestTextsComeBack: programs in their one form, and others whose text is that form of them.
func TestTextsComeBack(t *testing.T) { // P14.3
	const form = "base edge(int, sym).\nview int().\non on_(A int, B sym): +edge(A, B), -edge(-1, \"a\\n\").\non e().\np(X, _) :- edge(X, Y), not q(), X != -3, Y >= \"\".\nq().\n"
	for _, s := range []string{
		form, strings.ReplaceAll(form, " ", "\t\n"), strings.ReplaceAll(form, "\n", "% c\n"), strings.ReplaceAll(form, ".\n", "."),
		"p(X,_):-edge(X,Y),not q(),X!=-3,Y>=\"\". base edge(int,sym).on on_(A int,B sym):+edge(A,B),-edge(-1,\"a\\n\").q().view int().on e().",
	} {
		p, _, e := parse.Program(s)
		if e != api.OK {
			t.Fatalf("%q: %d", s, e)
		}
		is(t, p, form)
	}
}

// texted are parts by their kinds and texts.
type texted map[reflect.Type]map[string]part

// apart tells if a part has the text of another one of its kind.
func (l texted) apart(t *testing.T, x part) {
	t.Helper()
	s, e := printed(x)
	if e != api.OK {
		return
	}
	kind := reflect.TypeOf(x)
	if l[kind] == nil {
		l[kind] = map[string]part{}
	}
	if y, there := l[kind][s]; there && !equal(x, y) {
		t.Errorf("%q is the text of %+v and %+v", s, x, y)
	}
	l[kind][s] = x
}

// TestTextsDiffer: of all small parts, of drawn ones, and of such ones of which one field or row is altered.
func TestTextsDiffer(t *testing.T) { // P14.4
	l := texted{}
	for _, x := range someTerms() {
		for _, y := range whole(x) {
			l.apart(t, y)
		}
	}
	d := drawing(4)
	for range 2000 {
		for _, x := range d.parts() {
			l.apart(t, x)
			for range 4 {
				l.apart(t, d.altered(x))
			}
		}
	}
	for kind, n := range l {
		if len(n) < 20 {
			t.Errorf("%d texts of a %s", len(n), kind)
		}
	}
	if len(l) != 7 {
		t.Errorf("%d kinds", len(l))
	}
}

// TestOneFieldDiffers: parts of which one field or row alone differs, each in turn, have no common text.
func TestOneFieldDiffers(t *testing.T) { // P14.4
	d := drawing(5)
	both := 0
	for range 25 {
		for _, x := range d.parts() {
			s, _ := printed(x)
			for i := range places(changeable(x)) {
				for range 8 {
					y := changeable(x)
					d.alter(places(y)[i])
					other, e := printed(y.Interface())
					if e != api.OK {
						continue
					}
					both++
					if (other == s) != equal(x, y.Interface()) {
						t.Errorf("%q of %+v, %q of %+v", s, x, other, y)
					}
				}
			}
		}
	}
	if both < 4000 {
		t.Errorf("%d have texts", both)
	}
}

// TestNilAndEmpty: rows of nothing are the same, whether they are nil or not.
func TestNilAndEmpty(t *testing.T) { // P14.1, P14.4
	d := drawing(6)
	for range 300 {
		for _, x := range d.parts() {
			y := changeable(x)
			for _, v := range places(y) {
				if v.Kind() == reflect.Slice && v.Len() == 0 && v.IsNil() {
					v.Set(reflect.MakeSlice(v.Type(), 0, 3))
				} else if v.Kind() == reflect.Slice && v.Len() == 0 {
					v.SetZero()
				}
			}
			s, _ := printed(x)
			is(t, y.Interface(), s)
		}
	}
}
