package lex_test

import (
	"math/rand"
	"regexp"
	"slices"
	"strconv"
	"testing"

	"pedigree/api"
	"pedigree/lex"
	"pedigree/value"
)

func name(at int, text string) api.Word { return api.Word{Kind: api.WName, Text: text, At: at} }

func variable(at int, text string) api.Word { return api.Word{Kind: api.WVar, Text: text, At: at} }

func anything(at int) api.Word { return api.Word{Kind: api.WAny, Text: "_", At: at} }

func mark(at int, text string) api.Word { return api.Word{Kind: api.WMark, Text: text, At: at} }

func num(at int, n int64) api.Word {
	return api.Word{Kind: api.WInt, Text: strconv.FormatInt(n, 10), V: api.Value{Kind: api.VInt, N: n}, At: at}
}

func sym(at int, text, s string) api.Word {
	return api.Word{Kind: api.WSym, Text: text, V: api.Value{Kind: api.VSym, S: s}, At: at}
}

// has tells if a text has other tokens.
func has(t *testing.T, s string, want ...api.Word) {
	t.Helper()
	if l, at, e := lex.Words(s); !slices.Equal(l, want) || at != 0 || e != api.OK {
		t.Errorf("Words(%.80q) = %v, %d, %d, want %v", s, l, at, e, want)
	}
}

// fails tells if a text has tokens, or another error, or one elsewhere.
func fails(t *testing.T, s string, want int) {
	t.Helper()
	if l, at, e := lex.Words(s); len(l) != 0 || at != want || e != api.ErrLex {
		t.Errorf("Words(%.80q) = %v, %d, %d, want ErrLex at %d", s, l, at, e, want)
	}
}

// like tells if Words answers other things than the definitions, written as patterns, say.
func like(t *testing.T, s string) {
	t.Helper()
	want, fault := defined(s)
	if fault < 0 {
		has(t, s, want...)
		return
	}
	fails(t, s, fault)
}

// The definitions as patterns. The groups of shapes are the kinds, in the order of their numbers.
var (
	gaps   = regexp.MustCompile(`\A(?:[ \t\n\r]|%[^\n]*)*`)
	shapes = regexp.MustCompile(`\A(?:([a-z][a-zA-Z0-9_]*)|([A-Z][a-zA-Z0-9_]*)|(_[a-zA-Z0-9_]*)|(-?[0-9]+)|("(?s:[^"\\]|\\.)*")|(:-|<=|>=|!=|[(),.:<>+=-]))`)
)

// defined are the tokens of a text and -1, or the offset at which there is none.
func defined(s string) ([]api.Word, int) {
	var l []api.Word
	for at := 0; ; {
		at += len(gaps.FindString(s[at:]))
		if at == len(s) {
			return l, -1
		}
		w := api.Word{At: at}
		for kind, text := range shapes.FindStringSubmatch(s[at:]) {
			if kind > 0 && text != "" {
				w.Kind, w.Text = api.WordKind(kind), text
			}
		}
		ok := w.Kind != 0
		switch w.Kind {
		case api.WName, api.WVar:
			ok = len(w.Text) <= 64
		case api.WAny:
			ok = w.Text == "_"
		case api.WInt, api.WSym:
			v, e := value.Read(w.Text)
			w.V, ok = v, e == api.OK
		}
		if !ok {
			return nil, at
		}
		l, at = append(l, w), at+len(w.Text)
	}
}

// parts are what drawn texts are made of: tokens, gaps, comments and, seldom, what is none of them.
func parts() []string {
	return []string{
		"p", "edge", "not", "a_B9", "z", "X", "Y_1", "Ab", "_", "0", "7", "-3", "-12", "9223372036854775807", "-9223372036854775808",
		`""`, `"a"`, `"\""`, `"\\"`, `"a\n%"`, `"\x00\xff"`, `"(x, y)"`,
		"(", ")", ",", ".", ":", ":-", "+", "-", "=", "!=", "<", "<=", ">", ">=",
		" ", " ", " ", "\n", "\t", "\r", "  \n", "\r\n", " ", "\n", "% c\n", "%\n", "% \"x\" _a 007 \xff\n", "%%\r\n",
	}
}

// drawn is a text of up to some parts, in any order, and now and then a byte of any kind.
func drawn(r *rand.Rand, most int) string {
	l := parts()
	var b []byte
	for range r.Intn(most + 1) {
		b = append(b, l[r.Intn(len(l))]...)
		if r.Intn(40) == 0 {
			b = append(b, byte(r.Intn(256)))
		}
	}
	return string(b)
}
