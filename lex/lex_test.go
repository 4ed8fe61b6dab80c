package lex_test

import (
	"math"
	"math/rand"
	"slices"
	"strings"
	"testing"

	"pedigree/api"
	"pedigree/lex"
)

// P12.2: Join, Where, Same.

// joins tells if the text of tokens is another, or if they are changed.
func joins(t *testing.T, want string, l ...api.Word) {
	t.Helper()
	before := slices.Clone(l)
	if s := lex.Join(l...); s != want {
		t.Errorf("Join(%v) = %q, want %q", l, s, want)
	}
	if !slices.Equal(l, before) {
		t.Errorf("Join made %v of %v", l, before)
	}
}

func TestJoin(t *testing.T) { // P12.2
	joins(t, "")
	joins(t, "p", name(0, "p"))
	joins(t, "p X", name(0, "p"), variable(1, "X"))
	joins(t, `p ( X , "a b" , -3 ) .`, name(9, "p"), mark(0, "("), variable(-1, "X"), mark(0, ","), sym(5, `"a b"`, "a b"), mark(5, ","), num(7, -3), mark(7, ")"), mark(8, "."))
	l, _, _ := lex.Words("p(X):-q(X,_),\n X!=-3.% a comment")
	joins(t, "p ( X ) :- q ( X , _ ) , X != -3 .", l...)
}

// TestJoinOfAny: only the Texts are asked, whatever is in them.
func TestJoinOfAny(t *testing.T) { // P12.2
	joins(t, "", api.Word{})
	joins(t, " ", api.Word{}, api.Word{})
	joins(t, "  a", api.Word{}, api.Word{}, name(0, "a"))
	joins(t, "a ", name(0, "a"), api.Word{Kind: -7, V: api.Value{Kind: api.VSym, S: "b"}, At: math.MinInt})
	joins(t, "  ", api.Word{Text: "  "})
	joins(t, " x  \x00\xff\n %", api.Word{Kind: 99, Text: " x "}, api.Word{Text: "\x00\xff\n"}, api.Word{Kind: api.WInt, Text: "%"})
	joins(t, "007 _a", api.Word{Kind: api.WInt, Text: "007", V: api.Value{Kind: api.VInt, N: 7}}, api.Word{Kind: api.WAny, Text: "_a"})
	many := make([]api.Word, 1<<17)
	for i := range many {
		many[i].Text = "ab"
	}
	joins(t, strings.Repeat("ab ", 1<<17)[:3<<17-1], many...)
}

// at tells if an offset has another line, or is elsewhere in it.
func at(t *testing.T, s string, offset, line, place int) {
	t.Helper()
	if a, b, e := lex.Where(s, offset); a != line || b != place || e != api.OK {
		t.Errorf("Where(%.40q, %d) = %d, %d, %d, want %d, %d", s, offset, a, b, e, line, place)
	}
}

// outside tells if an offset is in a text.
func outside(t *testing.T, s string, offset int) {
	t.Helper()
	if a, b, e := lex.Where(s, offset); a != 0 || b != 0 || e != api.ErrRange {
		t.Errorf("Where(%.40q, %d) = %d, %d, %d", s, offset, a, b, e)
	}
}

func TestWhere(t *testing.T) { // P12.2
	for offset, want := range [][2]int{{1, 1}, {1, 2}, {1, 3}, {2, 1}, {3, 1}, {3, 2}, {3, 3}, {4, 1}} {
		at(t, "ab\n\ncd\n", offset, want[0], want[1])
	}
	for offset, want := range [][2]int{{1, 1}, {2, 1}, {3, 1}, {3, 2}} {
		at(t, "\n\na", offset, want[0], want[1])
	}
	at(t, "", 0, 1, 1)
	at(t, "a", 0, 1, 1)
	at(t, "a", 1, 1, 2)
	at(t, "a\r\nb\rc", 2, 1, 3)
	at(t, "a\r\nb\rc", 5, 2, 3)
	at(t, "é\té", 3, 1, 4)
	at(t, "\xff\x00\v\f\u2028\n\xff", 8, 2, 1)
	at(t, "\"a\\nb\nc\"", 7, 2, 2)
	at(t, strings.Repeat("a\n", 1<<17), 1<<18-1, 1<<17, 2)
	at(t, strings.Repeat("a\n", 1<<17), 1<<18, 1<<17+1, 1)
}

func TestWhereOutside(t *testing.T) { // P12.2
	for _, s := range []string{"", "a", "\n", "a\nbc", "\xff", strings.Repeat("x", api.MaxText+1)} {
		at(t, s, 0, 1, 1)
		for _, n := range []int{-1, -2, math.MinInt, len(s) + 1, len(s) + 2, math.MaxInt} {
			outside(t, s, n)
		}
		if _, _, e := lex.Where(s, len(s)); e != api.OK {
			t.Errorf("Where(%.40q) at its end: %d", s, e)
		}
	}
}

// TestWhereOfAllOffsets: drawn texts, gone through byte by byte.
func TestWhereOfAllOffsets(t *testing.T) { // P12.2
	r := rand.New(rand.NewSource(123))
	for range 300 {
		s := drawn(r, 20)
		line, place := 1, 1
		for i := range len(s) {
			at(t, s, i, line, place)
			place++
			if s[i] == 10 {
				line, place = line+1, 1
			}
		}
		at(t, s, len(s), line, place)
		outside(t, s, len(s)+1)
	}
}

// TestSame: tokens that differ in one of their parts.
func TestSame(t *testing.T) { // P12.2
	words := []api.Word{{}, name(0, "a"), variable(3, "X"), anything(1), mark(2, ":-"), num(5, -3), sym(9, `"a"`, "a"), {Kind: -1, Text: "\xff", V: api.Value{Kind: 7, N: 8, S: "9"}, At: -4}}
	for i, a := range words {
		for j, b := range words {
			if lex.Same(a, b) != (i == j) {
				t.Errorf("Same(%v, %v) = %t", a, b, i != j)
			}
		}
		for part, change := range map[string]func(w *api.Word){
			"Kind":   func(w *api.Word) { w.Kind++ },
			"Text":   func(w *api.Word) { w.Text += "b" },
			"V.Kind": func(w *api.Word) { w.V.Kind++ },
			"V.N":    func(w *api.Word) { w.V.N-- },
			"V.S":    func(w *api.Word) { w.V.S += "b" },
		} {
			b := a
			change(&b)
			if lex.Same(a, b) || lex.Same(b, a) {
				t.Errorf("%v and %v are the same, whatever their %s", a, b, part)
			}
			b.At = a.At + 1
			if lex.Same(a, b) || lex.Same(b, a) {
				t.Errorf("%v and %v are the same, whatever their %s and At", a, b, part)
			}
		}
		for _, offset := range []int{0, 1, -1, a.At + 1, math.MaxInt, math.MinInt} {
			b := a
			b.At = offset
			if !lex.Same(a, b) || !lex.Same(b, a) {
				t.Errorf("%v and %v are not the same", a, b)
			}
		}
	}
}
