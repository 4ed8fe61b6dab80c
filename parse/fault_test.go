package parse_test

import (
	"math/rand"
	"slices"
	"strings"
	"testing"

	"pedigree/api"
	"pedigree/parse"
)

// P13.1: the errors, and their offsets.

// TestTooEarly: texts that end behind each kind of token, with and without gaps there.
func TestTooEarly(t *testing.T) { // P13.1
	for _, s := range []string{
		"base", "view", "base p", "base int", "view p(", "base p(int", "base p(sym", "base p(int,", "base p(int, sym", "base p()", "base p(sym)",
		"on", "on e", "on e(", "on e(A", "on e(A int", "on e(A sym", "on e(A int,", "on e(A int, B", "on e()", "on e(A int)", "on e():", "on e(): +", "on e(): -", "on e(): +p",
		"on e(): -p(", "on e(): +p(X", "on e(): +p()", "on e(): +p(),", "on e(): +p(), -", "on e(): +p(), -p()",
		"p", "p(", "p(X", "p(_", "p(7", "p(-3", `p("a"`, "p(X,", "p(X, 1", "p()", "p(X)", "p() :-", "p() :- not", "p() :- not q", "p() :- q", "p() :- not q()", "p() :- q()", "p() :- q(),",
		"p() :- X", "p() :- 7", "p() :- -3", `p() :- "a"`, "p() :- _", "p() :- X =", "p() :- X !=", "p() :- X <", "p() :- X <=", "p() :- X >", "p() :- X >=", "p() :- X = Y", "p() :- X = -7",
		`p() :- X = "a"`, "p() :- X = _", "p() :- X = Y,", "p() :- q(X, Y), X < Y",
	} {
		for _, gap := range []string{"", " ", "\n\n", "%", " % p().", "% c\n "} {
			misfits(t, parse.Program, s+gap, len(s+gap))
			misfits(t, parse.Program, "base p(). q(X) :- p(). on e(). "+s+gap, 31+len(s+gap))
			if strings.HasPrefix(s, "p") {
				misfits(t, parse.Rule, s+gap, len(s+gap))
			}
		}
	}
	for _, s := range []string{"p", "p(", "p(X", "p(_", "p(7", "p(-3", `p("a"`, "p(X,", "p(X, 1", "p(X, Y,"} {
		misfits(t, parse.Atom, s, len(s))
		misfits(t, parse.Atom, s+" % )", len(s)+4)
	}
}

// TestMisfits: what does not fit, in each kind of clause.
func TestMisfits(t *testing.T) { // P13.1
	for s, at := range map[string]int{
		"base p(int,).": 11, "base p(,int).": 7, "base p(int sym).": 11, "base p(X).": 7, "base p(real).": 7, "base p(Int).": 7, "base p(1).": 7, "base p(_).": 7, `base p("int").`: 7,
		"base P(int).": 5, "base p int.": 7, "base p.": 6, "base p()": 8, "base p(). )": 10, "base p():": 8, "base p() :- q().": 9, "base view p().": 5, "base p(int)).": 11, "base p((int)).": 7, "base 7().": 5, `base "p"().`: 5, "base _().": 5,
		"view base p().": 5, "view p(int, int": 15, "base p(base).": 7,
		"on e(A).": 6, "on e(A int,).": 11, "on e(int A).": 5, "on e(A int B int).": 11, "on e(A B).": 7, "on e(_ int).": 5, "on e(1 int).": 5, "on e(a int).": 5, "on e(, A int).": 5, `on e("A" int).`: 5, "on e(A: int).": 6,
		"on e() +p().": 7, "on e():.": 7, "on e(): .": 8, "on e(): p().": 8, "on e(): +p(),.": 13, "on e(): +p(), p().": 14, "on e(): +p() -p().": 13, "on e(): + not p().": 10, "on e(): not p().": 8, "on e(): +-p().": 9,
		"on e():-p().": 6, "on e() :- +p().": 7, "on e(): -3.": 8, "on e(): +3.": 9, "on e(): +X.": 9, "on e(): = p().": 8, "on e(), +p().": 6, "on on().": 3, "on E().": 3, "on e.": 4, "on e(): +p(): +q().": 12, "on e(): +p(X,).": 13, "on e(): +p(int, X int).": 11,
		"p.": 1, "p :- q().": 2, "p(),": 3, "p() q().": 4, "p():": 3, "p(): -q().": 3, "p() -: q().": 4, "p() : - q().": 4, "p(a).": 2, "p(X Y).": 4, "p(X,).": 4, "p(,X).": 2, "p(,).": 2, "p((X)).": 2, "p(X)).": 4, "p(q(X)).": 2, "p(+1).": 2, "p(- 1).": 2, "p(not).": 2, "p(X = Y).": 4,
		"p() :- , q().": 7, "p() :- q(),.": 11, "p() :- q(), , q().": 12, "p() :- q() q().": 11, "p() :- q() :- r().": 11, "p() :- q.": 8, "p() :- X.": 8, "p() :- X, q().": 8, "p() :- not X = Y.": 11, "p() :- not _.": 11, "p() :- not 1.": 11, "p() :- X == Y.": 10, "p() :- X = = Y.": 11,
		"p() :- X =< Y.": 10, "p() :- X => Y.": 10, "p() :- X < = Y.": 11, "p() :- X = q().": 11, "p() :- X = not.": 11, "p() :- q() = X.": 11, "p() :- q = X.": 9, "p() :- X Y.": 9, "p() :- X = Y Z.": 13, "p() :- X = Y = Z.": 13, "p() :- (X = Y).": 7, "p() :- X + Y.": 9, "p() :- X - 3.": 9, "p() :- X -3.": 9,
		"p() :- X := Y.": 9, "p() :- :- q().": 7, "p() :- .q().": 7, "p() :- -q().": 7, "p() :- +q().": 7, "p() :- X < .": 11, "p() :- = X.": 7,
		"X.": 0, "_.": 0, "7.": 0, "-3.": 0, `"a".`: 0, "(": 0, ")": 0, ",": 0, ".": 0, ":": 0, ":-": 0, "+": 0, "-": 0, "=": 0, "!=": 0, "<": 0, "<=": 0, ">": 0, ">=": 0, "X(a).": 0, "+p().": 0, ":- p().": 0, "(p()).": 0,
		"p()..": 4, "p(). .": 5, ". p().": 0, "p(). X(). p": 5, "p(). not q().": 5, " \n% X\n  X": 8,
	} {
		misfits(t, parse.Program, s, at)
		first, _, _ := strings.Cut(s, " ")
		if first != "base" && first != "view" && first != "on" && first != "p()." {
			misfits(t, parse.Rule, s, at)
		}
	}
}

// TestBehind: what stands behind a whole rule or a whole atom.
func TestBehind(t *testing.T) { // P13.1
	for _, w := range tokens() {
		misfits(t, parse.Rule, "p(). "+w, 5)
		misfits(t, parse.Rule, "p() :- X < 1. \n"+w+" )", 15)
		misfits(t, parse.Atom, "p(X) "+w, 5)
		misfits(t, parse.Atom, "p() % c\n"+w+" q(", 8)
	}
	misfits(t, parse.Rule, "p(). q().", 5)
	misfits(t, parse.Rule, "p(). p().", 5)
	misfits(t, parse.Atom, "p() :- q().", 4)
	misfits(t, parse.Atom, "p().", 3)
	misfits(t, parse.Atom, "p(),q()", 3)
	gives(t, parse.Rule, "p(). % q()", rule(atom("p")))
	gives(t, parse.Atom, "p() \n\t\r% .", atom("p"))
}

// TestKinds: what is a text of one kind, and none of another.
func TestKinds(t *testing.T) { // P13.1
	misfits(t, parse.Rule, "base p().", 0)
	misfits(t, parse.Rule, "view p().", 0)
	misfits(t, parse.Rule, "on p().", 0)
	misfits(t, parse.Rule, "p()", 3)
	misfits(t, parse.Atom, "base p().", 0)
	misfits(t, parse.Atom, "not p()", 0)
	misfits(t, parse.Atom, "X", 0)
	misfits(t, parse.Atom, "X = Y", 0)
	misfits(t, parse.Program, "p()", 3)
	misfits(t, parse.Program, "X = Y.", 0)
	misfits(t, parse.Program, "int", 3)
}

// TestLexFirst: where not all of a text has tokens, that is the error, wherever another token does not fit.
func TestLexFirst(t *testing.T) { // P13.1
	for s, at := range map[string]int{
		"?": 0, "p(X) ?": 5, ") ?": 2, "p( ) ) ?": 7, "p(X) :- . ?": 10, "not(X). _a": 8, "p(). ) 007": 7, "p(\"a": 2, "X \"": 2, "p( % c\n!": 7, "p() :- X ! = Y.": 9, "base p(int,). '": 14, "p() :- q(X), 9223372036854775808.": 13,
		"p(X) :- q(X)": -1, "p(é)": 2, "\x00": 0, "p(-0)": 2, ". . . \xff": 6, "p(_x)": 2, "p() :- X ! Y. ?": 9, `p("\q")`: 2,
	} {
		if at < 0 {
			misfits(t, parse.Program, s, len(s))
			continue
		}
		fails(t, parse.Program, s, at, 120)
		fails(t, parse.Rule, s, at, 120)
		fails(t, parse.Atom, s, at, 120)
	}
	for _, s := range []string{strings.Repeat(" ", api.MaxText+1), strings.Repeat("?", api.MaxText+1), ")" + strings.Repeat("p", api.MaxText), "p()." + strings.Repeat("%", api.MaxText)} {
		fails(t, parse.Program, s, 0, 2)
		fails(t, parse.Rule, s, 0, 2)
		fails(t, parse.Atom, s, 0, 2)
	}
}

// follows tells if one of the parsers answers other things of a text than the grammar says.
func follows(t *testing.T, x *expected, s string) {
	t.Helper()
	all(s, func(kind string, zero bool, at int, e api.Errno) {
		wantAt, want := x.of(kind, s)
		if at != wantAt || e != want || e != api.OK && !zero {
			t.Errorf("%s %.200q: %d, %d (nothing beside it: %v), want %d, %d", kind, s, at, e, zero, wantAt, want)
		}
	})
}

// TestGrammarItself: what the tests hold to be the grammar is the document's.
func TestGrammarItself(t *testing.T) { // P13.1
	x := theExpected()
	if len(x.g) != 9 || len(x.g["clause"]) != 41 || !slices.Equal(x.g["op"], strings.Fields(`"=" | "!=" | "<" | "<=" | ">" | ">="`)) {
		t.Fatalf("%d names, %q", len(x.g), x.g)
	}
	for s, want := range map[string]int{"p(X) :- .": 8, "p(": 2, "not(X).": 0, "p(X) :- q(X, _), X != -3.": -1, "": -1, "base p(int,).": 11, "on e(A int): +p(), -q(). p() :- not p(), X <= 3, 1 > _. view p().": -1} {
		if at, e := x.of("program", s); (e == api.OK) != (want < 0) || e != api.OK && at != want {
			t.Errorf("of %q: %d, %d", s, at, e)
		}
	}
}

// TestShortTexts: all rows of up to three tokens, and those of more that begin like a program, a rule or an atom.
func TestShortTexts(t *testing.T) { // P13.1
	x := theExpected()
	n := 0
	var try func(l []string)
	try = func(l []string) {
		s := spaced(l)
		follows(t, x, s)
		n++
		at, e := x.of("program", s)
		goesOn := e == api.OK || at == len(s)
		if len(l) < 3 || len(l) < 8 && goesOn {
			for _, w := range tokens() {
				try(append(l[:len(l):len(l)], w))
			}
		}
	}
	try(nil)
	if n < 80000 {
		t.Errorf("%d texts", n)
	}
}

// samples are programs, rules and atoms in which everything is that the grammar names.
func samples() []string {
	return []string{
		`base edge ( int , sym , int ) . view v ( ) . base b ( sym ) .`,
		`on link ( A int , B sym , C sym ) : + edge ( A , B , 7 ) , - edge ( _ , "a" ) , + p ( ) . on e ( ) . on f ( A sym ) : - q ( A ) .`,
		`p ( X , _ , 7 , "a" ) :- q ( X ) , not r ( X , 1 ) , not s ( ) , X = 1 , X != "a" , _ < X , 1 <= -3 , "a" > X , X >= Y , t ( ) .`,
		`p ( ) . p ( X ) :- X = Y . base b ( ) . q ( 1 ) . on e ( ) : + p ( ) . view v ( int ) .`,
		`p ( X ) . % c`, `p ( X , Y )`, `q ( )`, `int ( sym ) .`,
	}
}

// TestAltered: each token of the samples replaced by one of each kind, gone, or with another one ahead of it; and the samples ended behind each token.
func TestAltered(t *testing.T) { // P13.1
	x := theExpected()
	for _, s := range samples() {
		l := strings.Fields(s)
		follows(t, x, s)
		for i := range l {
			follows(t, x, spaced(l[:i]))
			follows(t, x, spaced(l[:i])+" \n")
			follows(t, x, spaced(l[i:]))
			follows(t, x, spaced(slices.Delete(slices.Clone(l), i, i+1)))
			for _, w := range append(tokens(), "?", "_a") {
				m := slices.Clone(l)
				m[i] = w
				follows(t, x, spaced(m))
				follows(t, x, spaced(slices.Insert(slices.Clone(l), i, w)))
				follows(t, x, spaced(append(slices.Clone(l[:i]), w)))
			}
		}
	}
}

// TestDrawnTexts: rows of drawn tokens, and pieces of samples one after the other.
func TestDrawnTexts(t *testing.T) { // P13.1
	x := theExpected()
	r := rand.New(rand.NewSource(1))
	var l []string
	for _, s := range samples() {
		l = append(l, strings.Fields(strings.TrimSuffix(s, "% c"))...)
	}
	for range 6000 {
		var m []string
		for range r.Intn(5) {
			i := r.Intn(len(l))
			m = append(m, l[i:min(len(l), i+1+r.Intn(30))]...)
			if r.Intn(3) == 0 {
				m = append(m, tokens()[r.Intn(len(tokens()))])
			}
		}
		follows(t, x, drawnText(r, m))
	}
}

// TestAnyBytes: rows of bytes of any kind end, too.
func TestAnyBytes(t *testing.T) { // P13.1
	x := theExpected()
	r := rand.New(rand.NewSource(2))
	for range 20000 {
		b := make([]byte, r.Intn(12))
		for i := range b {
			const some = "p(X)._,:-+=1\"n\n %?\xff"
			b[i] = some[r.Intn(len(some))]
		}
		follows(t, x, string(b))
	}
}
