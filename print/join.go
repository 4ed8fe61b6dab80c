package print

import (
	"strings"

	"pedigree/api"
	"pedigree/lex"
)

// join is the texts of parts with something between any two. It has none if one of the parts has none.
func join[T any](l []T, between string, text func(T) (string, bool)) (string, bool) {
	var b strings.Builder
	for i, x := range l {
		s, ok := text(x)
		if !ok {
			return "", false
		}
		if i > 0 {
			b.WriteString(between)
		}
		b.WriteString(s)
	}
	return b.String(), true
}

// named is a name with parts in parentheses.
func named[T any](s string, l []T, text func(T) (string, bool)) (string, bool) {
	s, okName := name(s)
	inside, okInside := join(l, ", ", text)
	return s + "(" + inside + ")", okName && okInside
}

// tail is a mark and the parts behind it; without parts, there is no mark either.
func tail[T any](mark string, l []T, text func(T) (string, bool)) (string, bool) {
	if len(l) == 0 {
		return "", true
	}
	s, ok := join(l, ", ", text)
	return mark + s, ok
}

// lines is parts that each end a line.
func lines[T any](l []T, text func(T) (string, bool)) (string, bool) {
	return join(l, "", func(x T) (string, bool) {
		s, ok := text(x)
		return s + "\n", ok
	})
}

func name(s string) (string, bool) {
	switch s {
	case "base", "view", "on", "not":
		return "", false // in a text, these say what a clause or a literal is
	}
	return word(s, api.WName)
}

func variable(s string) (string, bool) {
	return word(s, api.WVar)
}

// word is s, if that is one token of a kind with nothing around it.
func word(s string, kind api.WordKind) (string, bool) {
	l, _, _ := lex.Words(s)
	if len(l) != 1 || l[0].Kind != kind || l[0].Text != s {
		return "", false
	}
	return l[0].Text, true // not s, with which the answer would share memory
}
