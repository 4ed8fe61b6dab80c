package print_test

import (
	"slices"
	"strings"
	"testing"

	"pedigree/api"
	"pedigree/lex"
	"pedigree/parse"
	"pedigree/print"
)

// P14.1, and P14.2 and P14.3 there: texts at the limit.

// declsOf, onsOf and rulesOf are clauses of one kind whose texts have so many bytes together, which must be at least 10.
func declsOf(bytes int) api.Program {
	return api.Program{Decls: append(slices.Repeat([]api.Decl{view("p")}, bytes/10-1), view(strings.Repeat("p", 1+bytes%10)))}
}

func onsOf(bytes int) api.Program {
	return api.Program{Ons: append(slices.Repeat([]api.On{on("e", nil)}, bytes/8-1), on(strings.Repeat("e", 1+bytes%8), nil))}
}

func rulesOf(bytes int) api.Program {
	return api.Program{Rules: append(slices.Repeat([]api.Rule{rule(atom("p"))}, bytes/5-1), rule(atom(strings.Repeat("p", 1+bytes%5))))}
}

func together(l ...api.Program) api.Program {
	var p api.Program
	for _, q := range l {
		p.Decls, p.Ons, p.Rules = slices.Concat(p.Decls, q.Decls), slices.Concat(p.Ons, q.Ons), slices.Concat(p.Rules, q.Rules)
	}
	return p
}

// fits tells if a program whose text has so many bytes has none, or another one, though it has not more than 65536 of them; or has one though it has more.
func fits(t *testing.T, p api.Program, bytes int) {
	t.Helper()
	want, ok := defined(p)
	if len(want) != bytes || !ok {
		t.Fatalf("%d bytes, want %d", len(want), bytes)
	}
	s, e := print.Program(p)
	if bytes > 65536 {
		if s != "" || e != 2 {
			t.Errorf("of %d: %d bytes, %d", bytes, len(s), e)
		}
		return
	}
	if s != want || e != api.OK {
		t.Errorf("of %d: %d bytes, %d", bytes, len(s), e)
	}
	if _, _, e := lex.Words(s); e != api.OK {
		t.Errorf("of %d: %d", bytes, e)
	}
	if q, _, e := parse.Program(s); e != api.OK || !equal(p, q) {
		t.Errorf("of %d: %d", bytes, e)
	}
}

func TestLongPrograms(t *testing.T) { // P14.1, P14.2, P14.3
	for n := 65530; n < 65545; n++ {
		fits(t, declsOf(n), n)
		fits(t, onsOf(n), n)
		fits(t, rulesOf(n), n)
		fits(t, together(declsOf(20000), onsOf(30000), rulesOf(n-50000)), n)
		fits(t, together(declsOf(20000), onsOf(n-20100), rulesOf(100)), n)
		fits(t, together(declsOf(n-100), onsOf(50), rulesOf(50)), n)
	}
	fits(t, rulesOf(65536*40), 65536*40)
	fits(t, together(declsOf(65536), rulesOf(10)), 65546)
	fits(t, together(onsOf(65536), declsOf(65536), rulesOf(65536)), 3*65536)
}

// long is a row of terms whose text, with commas between them, has so many bytes.
func long(bytes int) []api.Term { // at least 2
	n := bytes/3 - 1
	return append(slices.Repeat([]api.Term{anything()}, n), variable(strings.Repeat("X", bytes-3*n)))
}

// TestLongParts: only programs have a limit, also where they have one part alone.
func TestLongParts(t *testing.T) { // P14.1
	for _, n := range []int{65529, 65530, 65531, 65532, 65533, 65534, 65535, 65536, 65537, 65540, 100000, 1 << 20} {
		a := atom("p", long(n)...)
		parts := []part{a, pos(a), neg(a), rule(a), rule(atom("q"), pos(a)), on("e", nil, plus(a)), view("p", slices.Repeat([]api.Type{1}, n/5)...), on("e", slices.Repeat(params(param("A", 2)), n/7))}
		for _, x := range parts {
			want, _ := defined(x)
			if s, e := printed(x); s != want || e != api.OK {
				t.Errorf("%T of about %d: %d bytes, %d, want %d bytes", x, n, len(s), e, len(want))
			}
		}
		fits(t, api.Program{Rules: []api.Rule{rule(a)}}, n+5)
		fits(t, api.Program{Ons: []api.On{on("e", nil, plus(a))}}, n+14)
		fits(t, api.Program{Rules: []api.Rule{rule(atom("p"), neg(a))}}, n+16)
	}
}

// TestLongWithoutText: that there is no text is told ahead of what is too long, wherever either is.
func TestLongWithoutText(t *testing.T) { // P14.1
	bad := []api.Program{
		{Decls: []api.Decl{{}}}, {Decls: []api.Decl{view("p", 3)}}, {Ons: []api.On{{}}}, {Ons: []api.On{on("e", params(param("a", 1)))}}, {Ons: []api.On{on("e", nil, api.Act{})}},
		{Rules: []api.Rule{{}}}, {Rules: []api.Rule{rule(atom("p", api.Term{}))}}, {Rules: []api.Rule{rule(atom("p"), compared(num(1), 7, num(2)))}},
	}
	for _, p := range []api.Program{declsOf(65536), declsOf(65537), onsOf(65537), rulesOf(65537), together(declsOf(40000), onsOf(40000), rulesOf(40000)), {Rules: []api.Rule{rule(atom("p", long(65537)...))}}} {
		for _, q := range bad {
			for _, x := range []api.Program{together(p, q), together(q, p), together(p, q, p)} {
				if s, e := print.Program(x); s != "" || e != 140 {
					t.Errorf("%d bytes, %d", len(s), e)
				}
			}
		}
	}
	if s, e := print.Program(api.Program{Rules: []api.Rule{rule(atom("p", sym(strings.Repeat("a", 1<<20))))}}); s != "" || e != 140 {
		t.Errorf("%d bytes, %d", len(s), e)
	}
	if s, e := print.Program(api.Program{Rules: []api.Rule{rule(atom(strings.Repeat("p", 1<<20)))}}); s != "" || e != 140 {
		t.Errorf("%d bytes, %d", len(s), e)
	}
}
