package lex

import (
	"strings"

	"pedigree/api"
	"pedigree/value"
)

// class is what a byte of a name, of a variable or of an int is; 0 is every other byte's.
type class uint8

const (
	small class = 1 << iota
	great
	digit
	under
	inName = small | great | digit | under
)

// letters are the classes of the bytes up to z.
var letters = [...]class{
	'0': digit, digit, digit, digit, digit, digit, digit, digit, digit, digit,
	'A': great, great, great, great, great, great, great, great, great, great, great, great, great,
	'N': great, great, great, great, great, great, great, great, great, great, great, great, great,
	'_': under,
	'a': small, small, small, small, small, small, small, small, small, small, small, small, small,
	'n': small, small, small, small, small, small, small, small, small, small, small, small, small,
}

func classOf(c byte) class {
	if int(c) < len(letters) {
		return letters[c]
	}
	return 0
}

// span is how many bytes at the beginning of s are of some classes.
func span(s string, of class) int {
	for i := range len(s) {
		if classOf(s[i])&of == 0 {
			return i
		}
	}
	return len(s)
}

// token is the token at an offset, and whether it is a valid one.
func token(s string, at int) (api.Word, bool) {
	kind, n := shape(s[at:])
	text := strings.Clone(s[at : at+n]) // so that a token doesn't keep the whole text
	v, ok := meaning(kind, text)
	return api.Word{Kind: kind, Text: text, V: v, At: at}, ok
}

// meaning is the value of a token, and whether its bytes are valid for its kind.
func meaning(kind api.WordKind, text string) (api.Value, bool) {
	switch kind {
	case api.WName, api.WVar:
		return api.Value{}, len(text) <= api.MaxName
	case api.WAny:
		return api.Value{}, len(text) == 1
	case api.WInt, api.WSym:
		v, e := value.Read(text)
		return v, e == api.OK
	case api.WMark:
		return api.Value{}, true
	}
	return api.Value{}, false
}

// shape is the kind of the token that s begins with, and how many bytes belong to it, whether they are valid or not; 0 and 0 if no token begins so.
func shape(s string) (api.WordKind, int) {
	switch classOf(s[0]) {
	case small:
		return api.WName, span(s, inName)
	case great:
		return api.WVar, span(s, inName)
	case under:
		return api.WAny, span(s, inName) // valid alone only
	case digit:
		return api.WInt, span(s, digit)
	}
	return shapeOfOther(s)
}

// shapeOfOther is shape where s begins with none of the letters.
func shapeOfOther(s string) (api.WordKind, int) {
	two := s[:min(2, len(s))]
	switch s[0] {
	case '"':
		return api.WSym, symbol(s)
	case '!':
		if two == "!=" {
			return api.WMark, 2
		}
	case '-':
		if n := span(s[1:], digit); n > 0 {
			return api.WInt, 1 + n
		}
		return api.WMark, 1
	case ':', '<', '>':
		if two == ":-" || two == "<=" || two == ">=" {
			return api.WMark, 2
		}
		fallthrough
	case '(', ')', ',', '.', '+', '=':
		return api.WMark, 1
	}
	return 0, 0
}

// symbol is how many bytes s has up to the first " behind its beginning that is not escaped, or at all: value.Read does not take a symbol that does not end.
func symbol(s string) int {
	for i := 1; i < len(s); i++ {
		switch s[i] {
		case '\\':
			i++ // what is escaped ends no symbol
		case '"':
			return i + 1
		}
	}
	return len(s)
}
