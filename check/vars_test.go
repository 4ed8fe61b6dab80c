package check_test

import (
	"slices"
	"strings"
	"testing"

	"pedigree/api"
	"pedigree/check"
)

func TestFind(t *testing.T) { // P15.2
	p := program(t, "base b(int, sym). view v(sym). on e(). view w().")
	for i, name := range []string{"b", "v", "w"} {
		if d, is := check.Find(p, name); !is || !alike(d, p.Decls[i]) {
			t.Errorf("Find(%q) = %+v, %v", name, d, is)
		}
	}
	for _, name := range []string{"", "e", "B", "b ", "x"} {
		if d, is := check.Find(p, name); is || !alike(d, api.Decl{}) {
			t.Errorf("Find(%q) = %+v, %v", name, d, is)
		}
	}
	p.Decls = append(p.Decls, view("b"), base("w", 1), view("x", 7), base("x"), api.Decl{Types: []api.Type{2}})
	for name, i := range map[string]int{"b": 0, "v": 1, "w": 2, "x": 5, "": 7} { // the first one; programs that are not valid, too
		if d, is := check.Find(p, name); !is || !alike(d, p.Decls[i]) {
			t.Errorf("Find(%q) = %+v, %v", name, d, is)
		}
	}
	if d, is := check.Find(api.Program{}, ""); is || !alike(d, api.Decl{}) {
		t.Errorf("Find of nothing = %+v, %v", d, is)
	}
}

func TestFindLast(t *testing.T) { // P15.2: there is no limit of declarations
	var p api.Program
	for i := range 1000 {
		p.Decls = append(p.Decls, view(named("v", i), api.Type(i)))
	}
	if d, is := check.Find(p, "v999"); !is || d.Types[0] != 999 {
		t.Errorf("Find = %+v, %v", d, is)
	}
}

func TestVars(t *testing.T) { // P15.2
	for text, want := range map[string][2]string{
		"v().":                         {"", ""},
		"v(1, _, \"X\").":              {"", ""},
		"v(X).":                        {"X", ""},
		"v(X, Y, X).":                  {"X Y", ""},
		"v(X) :- b(X).":                {"X", "X"},
		"v(Y, X) :- b(X, Y).":          {"Y X", "Y X"},
		"v() :- b(Y), b(X), b(Y).":     {"Y X", "Y X"},
		"v() :- not b(X).":             {"X", ""},
		"v() :- not b(X, Y), b(Y, Z).": {"X Y Z", "Y Z"},
		"v() :- X < Y.":                {"X Y", ""},
		"v() :- Y < X, 1 = Z, Z = W.":  {"Y X Z W", ""},
		"v(D) :- C = B, not a(A), b(B, A, _, 1), D != D.": {"D C B A", "B A"},
		"v(Z) :- Z = A, B = Z, b(B), c(A), d(Z).":         {"Z A B", "Z A B"},
		"a(A) :- not b(B), C = 1, d(D), not e(E), b(B).":  {"A B C D E", "B D"},
		"v() :- b(_, X, 3), b(X, _, Y), Y != \"Z\".":      {"X Y", "X Y"},
	} {
		r := rule(t, text)
		if l := check.Vars(r); strings.Join(l, " ") != want[0] {
			t.Errorf("Vars(%s) = %q", text, l)
		}
		if l := check.Bound(r); strings.Join(l, " ") != want[1] {
			t.Errorf("Bound(%s) = %q", text, l)
		}
	}
}

// TestVarsOfAny has rules that no text means: all TVar terms count, whatever the kinds of their literals are.
func TestVarsOfAny(t *testing.T) { // P15.2
	whole := func(kind api.LitKind) api.Rule {
		return api.Rule{
			Head: atom("v", api.Term{Kind: 2, Name: "N"}, api.Term{Kind: 3, Name: "N"}, api.Term{Name: "N"}, variable("H")),
			Body: []api.Literal{{}, {Kind: kind, Atom: atom("", variable("x"), variable("")), A: api.Term{Kind: 1, Name: "A", V: api.Value{Kind: 9}}, B: variable("B")}, {A: variable("H"), B: variable("C")}},
		}
	}
	all := []string{"H", "x", "", "A", "B", "C"}
	for kind := api.LitKind(-1); kind <= 5; kind++ {
		r := whole(kind)
		if l := check.Vars(r); !slices.Equal(l, all) {
			t.Errorf("Vars with %d = %q", kind, l)
		}
		var bound []string
		if kind == 1 {
			bound = all[1:5]
		}
		if l := check.Bound(r); !slices.Equal(l, bound) {
			t.Errorf("Bound with %d = %q", kind, l)
		}
	}
	if l := check.Vars(api.Rule{}); len(l) != 0 {
		t.Errorf("Vars of nothing = %q", l)
	}
	if l := check.Bound(api.Rule{Body: []api.Literal{}}); len(l) != 0 {
		t.Errorf("Bound of nothing = %q", l)
	}
}

func TestTypes(t *testing.T) { // P15.3
	p := program(t, "base b(int, sym). base c(sym). view v(int, int, int). view w().")
	for text, want := range map[string][]api.Type{
		"w().":                           nil,
		"v(1, 2, 3).":                    nil,
		"v(X, Y, Z).":                    {1, 1, 1},
		"w() :- b(X, Y).":                {1, 2},
		"w() :- b(_, Y), c(Y), b(X, Y).": {2, 1},
		"w() :- not b(X, Y).":            {1, 2},
		"w() :- X = 1.":                  {0},
		"w() :- X = 1, b(X, Y), Z != Y.": {1, 2, 0},
		"w() :- X = Y, c(X).":            {2, 0},
		"nobody(X) :- c(X).":             {2},
		"nobody(X) :- c(Y).":             {0, 2},
		"w(X) :- c(Y).":                  {0, 2}, // more terms than types
		"c(X, Y) :- b(Z).":               {2, 0, 1},
		"b(\"a\", X) :- c(1), X = 1.":    {2}, // constants don't count
		"w() :- nobody(X), c(X, Y).":     {2, 0},
	} {
		if l, e := check.Types(p, rule(t, text)); e != 0 || !slices.Equal(l, want) {
			t.Errorf("Types(%s) = %v, %d", text, l, e)
		}
	}
	for _, text := range []string{
		"v(X, Y, X) :- c(X).",
		"v(X, Y, X) :- c(Y).",
		"v(_, _, X) :- not c(X).",
		"b(X) :- c(X, X), c(Z, Z, Y).",
		"w() :- b(X, X).",
		"w() :- not b(X, X).",
		"w() :- b(Y, X), X = Y, nobody(X), not b(X, _).",
		"nobody(X) :- c(X), v(X).",
		"w(X) :- c(X, X), b(X, Y, Z).",
	} {
		if l, e := check.Types(p, rule(t, text)); e != 156 || len(l) != 0 {
			t.Errorf("Types(%s) = %v, %d", text, l, e)
		}
	}
}

func TestTypesOfAny(t *testing.T) { // P15.3: programs and rules that are not valid
	p := api.Program{Decls: []api.Decl{base("b", 7, 0, 2, 3, -1), view("v", 1), view("v", 2, 2), {Types: []api.Type{2, 2}}}}
	for _, x := range []struct {
		r    api.Rule
		want []api.Type
		e    api.Errno
	}{
		{api.Rule{Head: atom("b", variable("A"), variable("B"), variable("C"), variable("D"), variable("E"))}, []api.Type{0, 0, 2, 0, 0}, 0}, // those are no types
		{api.Rule{Head: atom("b", variable("X"), variable("X"), variable("X"), variable("X"), variable("X"))}, []api.Type{2}, 0},
		{api.Rule{Head: atom("v", variable("X"), variable("Y"))}, []api.Type{1, 0}, 0}, // the first declaration counts
		{api.Rule{Head: atom("v", variable("X"), variable("X"))}, []api.Type{1}, 0},
		{api.Rule{Body: []api.Literal{{A: variable("A"), B: variable("B"), Atom: atom("v", variable("C"))}}}, []api.Type{1, 0, 0}, 0}, // an atom is one in any literal
		{api.Rule{Body: []api.Literal{{Kind: 3, Atom: atom("v", variable("A")), A: variable("A"), B: variable("B")}}}, []api.Type{1, 0}, 0},
		{api.Rule{Head: atom("", variable("A")), Body: []api.Literal{{Kind: 3, A: variable("A"), B: variable("B")}}}, []api.Type{2, 0}, 0},
		{api.Rule{Head: atom("v", variable("X")), Body: []api.Literal{{Kind: -1, Atom: atom("", variable("X"))}}}, nil, 156},
		{api.Rule{Head: atom("v", api.Term{Kind: 3, Name: "X"}), Body: []api.Literal{{Atom: atom("", variable("X"))}}}, []api.Type{2}, 0},
	} {
		if l, e := check.Types(p, x.r); e != x.e || !slices.Equal(l, x.want) {
			t.Errorf("Types(%+v) = %v, %d", x.r, l, e)
		}
		rulesLikeDefined(t, p, x.r)
	}
	if l, e := check.Types(api.Program{}, rule(t, "v(X) :- b(X, Y).")); e != 0 || !slices.Equal(l, []api.Type{0, 0}) {
		t.Errorf("Types without declarations = %v, %d", l, e)
	}
}
