package print_test

import (
	"strings"
	"testing"

	"pedigree/api"
	"pedigree/lex"
	"pedigree/print"
)

// P14.1: Name and Var, and that the same strings are taken wherever a name or a variable stands.

// names tells if a string has a text as a name, or as a variable, where it should not, or the other way round.
func names(t *testing.T, s string, name, variable bool) {
	t.Helper()
	if print.Name(s) != name || print.Var(s) != variable {
		t.Errorf("%.200q: name %v, variable %v, want %v, %v", s, print.Name(s), print.Var(s), name, variable)
	}
}

// likeForms tells if a string is a name or a variable other than by the patterns.
func likeForms(t *testing.T, s string) {
	t.Helper()
	names(t, s, isName(s), isVar(s))
}

func TestNames(t *testing.T) { // P14.1
	for _, s := range []string{"p", "z", "edge", "int", "sym", "pX", "p_", "p__9", "p0", "nota", "no", "n", "ont", "o", "on_", "on1", "baseb", "bas", "views", "vie", "bASE", "vIEW", "oN", "nOT", "true", "a_1B"} {
		names(t, s, true, false)
		is(t, atom(s), s+"()")
		is(t, view(s), "view "+s+"().")
		is(t, on(s, nil), "on "+s+"().")
		none(t, variable(s))
	}
	for _, s := range []string{"X", "A", "Z", "Edge", "INT", "A_1", "X_", "X__", "Base", "View", "On", "Not", "BASE", "NOT", "Xp", "N0t"} {
		names(t, s, false, true)
		is(t, variable(s), s)
		is(t, on("e", params(param(s, 1))), "on e("+s+" int).")
		none(t, atom(s))
		none(t, view(s))
		none(t, on(s, nil))
	}
}

// neither are strings that are no name and no variable: among them tokens of the other kinds, and names and variables with something around them.
func neither() []string {
	return []string{
		"", "base", "view", "on", "not",
		"_", "7", "-3", "0", `"a"`, `""`, "(", ")", ",", ".", ":", ":-", "+", "-", "=", "!=", "<", "<=", ">", ">=", "!", "?", "%", " ", "\n", "\t", "\r", "\x00", "\xff", "é", "ａ", "Σ",
		"a b", "A B", "a\nb", "A\nB", "a B", "A b", "p X", " a", "a ", " A", "A ", "a\n", "A\n", "\na", "\nA", "a\t", "A\r", "\ra", "a\r\n", "a%", "A%", "a%b", "A% c", "a %", "%\na", "% c\nA", "a%\n", "a%b\n", "A%\n",
		"a(", "p()", "p.", "a,", "a,b", "A,B", "-a", "+a", "a-1", "a-", "A-1", "a.b", "a:b", "A:-", "a=", "a!", "A!=", "a!=b", `a"b"`, `A""`, "_a", "_A", "_1", "1a", "1A", "1_", "a?", "?a", "A?", "aé", "Aé", "a\x00", "A\x00", "\x00a", "a\xff", "A\u0301", "a\u00a0", "\ufeffa",
		"on ", " on", "base%", "not\n", "not a", "on e", "base p", "A int", "__", "\\a", "a\\", "a'", "a`", "$a", "@A", "a/b", "a*", "a[0]", "{A}", "a|b", "a&b", "a;b", "a~", "a#b", "a^",
	}
}

func TestNeither(t *testing.T) { // P14.1
	for _, s := range neither() {
		names(t, s, false, false)
		for _, x := range []part{variable(s), atom(s), view(s), base(s, 1), on(s, nil), on("e", params(param(s, 1)))} {
			for _, y := range whole(x) {
				none(t, y)
			}
		}
	}
}

// TestTokens: of the tokens of a text, the names that mean nothing by themselves, and the variables.
func TestTokens(t *testing.T) { // P14.1
	l, _, _ := lex.Words(`base p(int). view v(sym). on e(A int): +p(A), -p(B_2). v(X) :- p(_), not p(3), X != "a", X <= -1, X < "p", X >= X, X > Y, X = Z.`)
	kinds := map[api.WordKind]int{}
	for _, w := range l {
		kinds[w.Kind]++
		names(t, w.Text, w.Kind == api.WName && !reserved.MatchString(w.Text), w.Kind == api.WVar)
	}
	if len(kinds) != 6 {
		t.Errorf("kinds: %v", kinds)
	}
}

func TestLongNames(t *testing.T) { // P14.1
	for _, c := range []string{"a", "Z", "_", "0"} {
		for n := 62; n < 70; n++ {
			likeForms(t, "a"+strings.Repeat(c, n-1))
			likeForms(t, "A"+strings.Repeat(c, n-1))
		}
		s := strings.Repeat(c, 63)
		names(t, "p"+s, true, false)
		names(t, "P"+s, false, true)
		names(t, "p"+s+c, false, false)
		names(t, "P"+s+c, false, false)
		is(t, atom("p"+s, variable("P"+s)), "p"+s+"(P"+s+")")
		is(t, view("p"+s), "view p"+s+"().")
		is(t, on("p"+s, params(param("P"+s, 2))), "on p"+s+"(P"+s+" sym).")
		for _, x := range []part{variable("P" + s + c), atom("p" + s + c), view("p" + s + c), on("p"+s+c, nil), on("e", params(param("P"+s+c, 2)))} {
			none(t, x)
		}
	}
	for _, s := range []string{"a", "A", " ", "a ", "A ", "a%", "?", `"`, "(", "_", "1", "\n"} {
		for _, n := range []int{65535, 65536, 65537, 1 << 20} {
			names(t, strings.Repeat(s, n), false, false)
			names(t, "a"+strings.Repeat(" ", n), false, false)
			names(t, strings.Repeat(" ", n)+"A", false, false)
		}
	}
}

// TestBytes: every byte alone, behind and ahead of others, and all strings of two bytes.
func TestBytes(t *testing.T) { // P14.1
	for i := range 256 {
		c := string([]byte{byte(i)})
		for _, s := range []string{c, "a" + c + "b", "A" + c + "B", "a0" + c, "Z_" + c, c + "ab", c + "AB", "on" + c, c + "not"} {
			likeForms(t, s)
		}
	}
	for i := range 1 << 16 {
		likeForms(t, string([]byte{byte(i >> 8), byte(i)}))
	}
}

// TestShortStrings: all strings of some bytes.
func TestShortStrings(t *testing.T) { // P14.1
	var step func(s string, left int)
	step = func(s string, left int) {
		likeForms(t, s)
		if left > 0 {
			for _, c := range "onaZ_0 %\n\"-(" {
				step(s+string(c), left-1)
			}
		}
	}
	step("", 4)
}
