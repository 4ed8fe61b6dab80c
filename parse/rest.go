package parse

import (
	"slices"

	"pedigree/api"
)

// misfit is the offset of the first token that does not fit, or of the text's end where a token is missing. A reading panics with it.
type misfit int

// rest are the tokens of a text that are still to be read, and how many bytes the text has.
type rest struct {
	words []api.Word
	size  int
}

// next is the next token. Where none is left, it is one at the text's end that has no kind and no text, and so fits nowhere.
func (l *rest) next() api.Word {
	if len(l.words) == 0 {
		return api.Word{At: l.size}
	}
	return l.words[0]
}

// need panics where the next token does not fit.
func (l *rest) need(fits bool) {
	if !fits {
		panic(misfit(l.next().At))
	}
}

// take takes the next token, which must fit.
func (l *rest) take(fits bool) api.Word {
	l.need(fits)
	w := l.words[0]
	l.words = l.words[1:]
	return w
}

// which takes a token of one of these texts, and tells the place of that text among them.
func (l *rest) which(texts ...string) int {
	i := slices.Index(texts, l.next().Text)
	l.take(i >= 0)
	return i
}

// must takes a token of this text.
func (l *rest) must(text string) {
	l.which(text)
}

// may takes a token of this text if it is the next one, and tells whether it was.
func (l *rest) may(text string) bool {
	is := l.next().Text == text
	if is {
		l.must(text)
	}
	return is
}
