package strat_test

import (
	"slices"
	"testing"

	"pedigree/api"
	"pedigree/strat"
)

// paths has strata of one relation and of several, recursive and not, on four levels, and dependences with and without negation.
const paths = `base edge(int, int). base node(int). view path(int, int). view near(int). view never(sym).
on link(A int, B int): +edge(A, B), -node(A).
path(X, Y) :- edge(X, Y).
path(X, Z) :- path(X, Y), edge(Y, Z), X != Z.
far(X) :- node(X), not near(X).
near(X) :- path(X, _).
odd(X) :- even(Y), edge(Y, X).
even(X) :- odd(Y), edge(Y, X), not near(X).
even(0).
top(X) :- far(X), not odd(X), not top0(X).
top0(7).`

func TestExamples(t *testing.T) { // P16.1, P16.2
	p := program(t, paths)
	hasNames(t, "Names", strat.Names(p), "edge", "even", "far", "near", "never", "node", "odd", "path", "top", "top0")
	hasStrata(t, "paths", p,
		api.Stratum{Names: []string{"path"}, Level: 1, Recursive: true, Rules: []int{0, 1}},
		api.Stratum{Names: []string{"top0"}, Level: 1, Rules: []int{8}},
		api.Stratum{Names: []string{"near"}, Level: 2, Rules: []int{3}},
		api.Stratum{Names: []string{"even", "odd"}, Level: 3, Recursive: true, Rules: []int{4, 5, 6}},
		api.Stratum{Names: []string{"far"}, Level: 3, Rules: []int{2}},
		api.Stratum{Names: []string{"top"}, Level: 4, Rules: []int{7}},
	)
	want := []api.Dep{
		{From: "even", To: "edge"}, {From: "even", To: "near", Neg: true}, {From: "even", To: "odd"},
		{From: "far", To: "near", Neg: true}, {From: "far", To: "node"},
		{From: "near", To: "path"},
		{From: "odd", To: "edge"}, {From: "odd", To: "even"},
		{From: "path", To: "edge"}, {From: "path", To: "path"},
		{From: "top", To: "far"}, {From: "top", To: "odd", Neg: true}, {From: "top", To: "top0", Neg: true},
	}
	if l := strat.Deps(p); !slices.Equal(l, want) {
		t.Errorf("Deps = %v", l)
	}
	hasNames(t, "Below path", strat.Below(p, "path"), "edge", "path")
	hasNames(t, "Below far", strat.Below(p, "far"), "edge", "near", "node", "path")
	hasNames(t, "Below odd", strat.Below(p, "odd"), "edge", "even", "near", "odd", "path")
	hasNames(t, "Below top", strat.Below(p, "top"), "edge", "even", "far", "near", "node", "odd", "path", "top0")
	hasNames(t, "Below top0", strat.Below(p, "top0"))
	hasNames(t, "Below edge", strat.Below(p, "edge"))
	hasNames(t, "Below never", strat.Below(p, "never"))

	refused := program(t, "p() :- not q(). q() :- p().")
	isRefused(t, "p and q", refused, "p")
}

func TestNames(t *testing.T) { // P16.1
	l := []string{"", "\x00", "A", "Z", "a", "a\x00", "a!", "aa", "ab", "b", "h", "\x7f", "\x80", "é", "\xff", "\xff\x00"}
	var declared, heads, asked, not, events api.Program
	for range 3 {
		for i := range l {
			s := l[(i*7+2)%len(l)]
			declared.Decls = append(declared.Decls, api.Decl{Name: s, Base: i%2 == 0})
			heads.Rules = append(heads.Rules, rule(s))
			asked.Rules = append(asked.Rules, rule("h", pos(s)))
			not.Rules = append(not.Rules, rule("h", neg(s)))
			events.Ons = append(events.Ons, api.On{Event: s, Params: []api.Param{{Name: s}}, Acts: []api.Act{{Atom: api.Atom{Pred: s}}}})
		}
	}
	slices.Sort(l)
	hasNames(t, "declared", strat.Names(declared), l...)
	hasNames(t, "heads", strat.Names(heads), l...)
	hasNames(t, "asked", strat.Names(asked), l...)
	hasNames(t, "asked with negation", strat.Names(not), l...)
	hasNames(t, "events", strat.Names(events))
	all := api.Program{Decls: []api.Decl{{Name: "d"}, {Name: "b"}}, Rules: of("c: a d; e:; a: !b").Rules}
	hasNames(t, "everywhere", strat.Names(all), "a", "b", "c", "d", "e")
}

func TestDeps(t *testing.T) { // P16.1
	for _, c := range []struct {
		text string
		want []api.Dep
	}{
		{"", nil},
		{"a:; b:", nil},
		{"a: a", []api.Dep{{From: "a", To: "a"}}},
		{"a: !a", []api.Dep{{From: "a", To: "a", Neg: true}}},
		{"a: b b b; a: b", []api.Dep{{From: "a", To: "b"}}},
		{"a: !b !b; a: !b", []api.Dep{{From: "a", To: "b", Neg: true}}},
		{"a: !b b", []api.Dep{{From: "a", To: "b"}, {From: "a", To: "b", Neg: true}}},
		{"a: b; c: d; a: !b", []api.Dep{{From: "a", To: "b"}, {From: "a", To: "b", Neg: true}, {From: "c", To: "d"}}},
		{"a: !b; c: d; a: b", []api.Dep{{From: "a", To: "b"}, {From: "a", To: "b", Neg: true}, {From: "c", To: "d"}}},
		{"a: !b c; a: !a", []api.Dep{{From: "a", To: "a", Neg: true}, {From: "a", To: "b", Neg: true}, {From: "a", To: "c"}}},
		{"b: a; a: b", []api.Dep{{From: "a", To: "b"}, {From: "b", To: "a"}}},
		{"b: a; a: z; ab: b; aa: !y", []api.Dep{{From: "a", To: "z"}, {From: "aa", To: "y", Neg: true}, {From: "ab", To: "b"}, {From: "b", To: "a"}}},
		{"x: \xff a ab \x80 A aa", []api.Dep{{From: "x", To: "A"}, {From: "x", To: "a"}, {From: "x", To: "aa"}, {From: "x", To: "ab"}, {From: "x", To: "\x80"}, {From: "x", To: "\xff"}}},
		{": b; a: !", []api.Dep{{From: "", To: "b"}, {From: "a", To: "", Neg: true}}},
	} {
		if l := strat.Deps(of(c.text)); !slices.Equal(l, c.want) {
			t.Errorf("Deps of %q = %v instead of %v", c.text, l, c.want)
		}
	}
}

func TestAsks(t *testing.T) { // P16.1
	// u is beside the way, w is on a circle that is beside it, and z is above all.
	p := of("z: !a; a: b; b: c !u; c: d w; w: !x; x: w; d: e; f: f; g: h; h: g; i: i !i; j: !k; j: k; k: l")
	for _, c := range []struct {
		from, to  string
		asks, neg bool
	}{
		{"a", "b", true, false},
		{"a", "c", true, false},
		{"a", "e", true, false},
		{"a", "u", true, true},
		{"b", "u", true, true},
		{"c", "u", false, false},
		{"a", "w", true, true}, // by way of x, and back
		{"c", "w", true, true},
		{"a", "x", true, true},
		{"w", "w", true, true},
		{"x", "x", true, true},
		{"x", "w", true, true}, // w, x, w
		{"w", "e", false, false},
		{"z", "a", true, true},
		{"z", "e", true, true},
		{"z", "z", false, false},
		{"a", "z", false, false},
		{"a", "a", false, false},
		{"e", "e", false, false}, // extensional
		{"e", "d", false, false},
		{"f", "f", true, false},
		{"g", "g", true, false},
		{"h", "g", true, false},
		{"i", "i", true, true},
		{"j", "k", true, true},
		{"j", "l", true, true},
		{"k", "l", true, false},
		{"a", "nobody", false, false},
		{"nobody", "a", false, false},
		{"nobody", "nobody", false, false},
		{"", "", false, false},
	} {
		if asks, neg := strat.Asks(p, c.from, c.to); asks != c.asks || neg != c.neg {
			t.Errorf("Asks %s, %s = %v, %v", c.from, c.to, asks, neg)
		}
	}
	if asks, neg := strat.Asks(of(": !"), "", ""); !asks || !neg {
		t.Errorf("the empty name: %v, %v", asks, neg)
	}
}

func TestBelow(t *testing.T) { // P16.1
	p := of("a: b; a: aa !ab; aa: b c; ab: a0; c: d; d: c; e: e; f: !g; g:; \xff: a; h: \xff \x80")
	for name, want := range map[string][]string{
		"a":      {"a0", "aa", "ab", "b", "c", "d"},
		"aa":     {"b", "c", "d"},
		"ab":     {"a0"},
		"b":      nil,
		"c":      {"c", "d"},
		"d":      {"c", "d"},
		"e":      {"e"},
		"f":      {"g"},
		"g":      nil,
		"\xff":   {"a", "a0", "aa", "ab", "b", "c", "d"},
		"h":      {"a", "a0", "aa", "ab", "b", "c", "d", "\x80", "\xff"},
		"nobody": nil,
		"":       nil,
	} {
		hasNames(t, "Below "+name, strat.Below(p, name), want...)
	}
	hasNames(t, "twice, with and without negation", strat.Below(of("a: b !b b; b: !c; b: c"), "a"), "b", "c")
}

func one(name string, level int, recursive bool, rules ...int) api.Stratum {
	return api.Stratum{Names: []string{name}, Level: level, Recursive: recursive, Rules: rules}
}

func several(level int, rules []int, names ...string) api.Stratum {
	return api.Stratum{Names: names, Level: level, Recursive: true, Rules: rules}
}

func TestStrata(t *testing.T) { // P16.2
	for text, want := range map[string][]api.Stratum{
		"":             nil,
		"a:":           {one("a", 1, false, 0)},
		"a:; a:":       {one("a", 1, false, 0, 1)},
		"a: b":         {one("a", 1, false, 0)},
		"a: !b":        {one("a", 1, false, 0)},
		"a: a":         {one("a", 1, true, 0)},
		"a: b; b:":     {one("b", 1, false, 1), one("a", 2, false, 0)},
		"a: !b; b: !c": {one("b", 1, false, 1), one("a", 2, false, 0)},
		"b: a; a:":     {one("a", 1, false, 1), one("b", 2, false, 0)},
		// directly, through one other, through many
		"a: b; b: a":                         {several(1, []int{0, 1}, "a", "b")},
		"b: a; a: b":                         {several(1, []int{0, 1}, "a", "b")},
		"d: e; e: a; a: c; c: b; b: d":       {several(1, []int{0, 1, 2, 3, 4}, "a", "b", "c", "d", "e")},
		"a: b; b: c; c: b":                   {several(1, []int{1, 2}, "b", "c"), one("a", 2, false, 0)},
		"a: b; b: a c; c: d; d: c":           {several(1, []int{2, 3}, "c", "d"), several(2, []int{0, 1}, "a", "b")},
		"a: b; c: b; b: a c":                 {several(1, []int{0, 1, 2}, "a", "b", "c")},
		"a: b c; b: a; c: a; d: a; a: a":     {several(1, []int{0, 1, 2, 4}, "a", "b", "c"), one("d", 2, false, 3)},
		"x: y z; y: x; z: z; x: w":           {one("z", 1, true, 2), several(2, []int{0, 1, 3}, "x", "y")},
		"a: !x; x: y; y: x; b: !x a; x: !ex": {several(1, []int{1, 2, 4}, "x", "y"), one("a", 2, false, 0), one("b", 3, false, 3)},
		// equal levels are in the order of the first names
		"c:; b:; a:":                       {one("a", 1, false, 2), one("b", 1, false, 1), one("c", 1, false, 0)},
		"ab:; a:; b:; B:; \xff:; \x80:":    {one("B", 1, false, 3), one("a", 1, false, 1), one("ab", 1, false, 0), one("b", 1, false, 2), one("\x80", 1, false, 5), one("\xff", 1, false, 4)},
		"b: z; z: b; y: a; a: y; c:":       {several(1, []int{2, 3}, "a", "y"), several(1, []int{0, 1}, "b", "z"), one("c", 1, false, 4)},
		":; a: ;  b: a; aa: a":             {one("", 1, false, 0), one("a", 1, false, 1), one("aa", 2, false, 3), one("b", 2, false, 2)},
		"a: z; y: z; z: x; x: w; b: w; w:": {one("w", 1, false, 5), one("b", 2, false, 4), one("x", 2, false, 3), one("z", 3, false, 2), one("a", 4, false, 0), one("y", 4, false, 1)},
		// the level is by the longest way
		"a: b c d; b: c d; c: d; d: e": {one("d", 1, false, 3), one("c", 2, false, 2), one("b", 3, false, 1), one("a", 4, false, 0)},
		"a: d c b; c: d; d: e; b: c":   {one("d", 1, false, 2), one("c", 2, false, 1), one("b", 3, false, 3), one("a", 4, false, 0)},
		// each with negation only on lower ones, twice between the same two, in both orders
		"a: b !b; b: !c c; a: !b b": {one("b", 1, false, 1), one("a", 2, false, 0, 2)},
		"a: b a; a: a !b; b: b !c":  {one("b", 1, true, 2), one("a", 2, true, 0, 1)},
	} {
		hasStrata(t, text, of(text), want...)
	}
}

func TestRefused(t *testing.T) { // P16.2
	for text, want := range map[string]string{
		"a: !a":                                   "a",
		"a: a !a":                                 "a",
		"a: !a; a: a":                             "a",
		"a: !b; b: a":                             "a",
		"a: b; b: !a":                             "a",
		"a: !b; b: !a":                            "a", // an even number of them does not help
		"b: !a; a: !b":                            "a",
		"a: b; b: !c; c: b":                       "b", // a depends on it, and is on no circle
		"b: !a; c: b; d: c; e: d; a: e":           "a",
		"c: b; d: c; e: d; b: e; d: !b":           "b",
		"z: !z; y: !y; x: x; w: !z":               "y", // several circles
		"z: !z; y: !z; z: y; a: z !y":             "y",
		"a: b; b: a; b: !b":                       "a", // a depends on b, which depends on itself with Neg, and on a
		"d: a; a: d; d: !c; c: d":                 "a",
		"b: a; a: b; c: d; d: !c; a: !d":          "c",
		"b: a; a: b; c: d; d: !c; c: a":           "c",
		"a: a b; b: b c; c: c d; d: d !e e; e: d": "d",
		": !":                      "",
		"a: !a; : !b; b: ":         "a",
		"\xff: !\xff; \x80: !\x80": "\x80",
		"ab: !ab; a: a; aa: !aa":   "aa",
	} {
		isRefused(t, text, of(text), want)
	}
}
