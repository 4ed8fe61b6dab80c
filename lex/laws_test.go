package lex_test

import (
	"math/rand"
	"regexp"
	"slices"
	"strings"
	"testing"

	"pedigree/api"
	"pedigree/lex"
)

// P12.3 to P12.5: the consequences, on drawn texts that have tokens.

// valids calls a function with drawn texts that have tokens, and with these.
func valids(t *testing.T, seed int64, each func(r *rand.Rand, s string, l []api.Word)) {
	t.Helper()
	r := rand.New(rand.NewSource(seed))
	tokens := 0
	for range 4000 {
		s := drawn(r, 25)
		if l, _, e := lex.Words(s); e == api.OK {
			tokens += len(l)
			each(r, s, l)
		}
	}
	if tokens < 10000 {
		t.Errorf("%d tokens drawn", tokens)
	}
}

// between is what there may be between two tokens, and behind is what there may be behind the last one.
var (
	between = regexp.MustCompile(`\A(?:[ \t\n\r]|%[^\n]*\n)*\z`)
	behind  = regexp.MustCompile(`\A(?:[ \t\n\r]|%[^\n]*\n)*(?:%[^\n]*)?\z`)
)

// TestCoverage: the tokens are where they say, and besides them there are gaps and comments only.
func TestCoverage(t *testing.T) { // P12.3
	valids(t, 3, func(_ *rand.Rand, s string, l []api.Word) {
		end := 0
		for i, w := range l {
			if w.At < end || w.Text == "" || !strings.HasPrefix(s[w.At:], w.Text) {
				t.Fatalf("%q: token %d is %v, behind %d", s, i, w, end)
			}
			if !between.MatchString(s[end:w.At]) {
				t.Fatalf("%q: ahead of token %d is %q", s, i, s[end:w.At])
			}
			end = w.At + len(w.Text)
		}
		if !behind.MatchString(s[end:]) {
			t.Fatalf("%q: behind the last token is %q", s, s[end:])
		}
	})
}

// TestRoundTrip: the tokens of their Join are the same tokens.
func TestRoundTrip(t *testing.T) { // P12.4
	valids(t, 4, func(_ *rand.Rand, s string, l []api.Word) {
		again(t, l, lex.Join(l...))
	})
	l, _, _ := lex.Words(strings.Repeat("(", 1<<15)) // Join has one byte less than there may be
	again(t, l, lex.Join(l...))
}

// again tells if a text has other tokens than these, wherever they are.
func again(t *testing.T, l []api.Word, s string) {
	t.Helper()
	if m, at, e := lex.Words(s); !slices.EqualFunc(l, m, lex.Same) || at != 0 || e != api.OK {
		t.Fatalf("Words(%.200q) = %v, %d, %d, want %v", s, m, at, e, l)
	}
}

// TestMoreGaps: a gap more between two tokens, or a comment behind the last one, changes none.
func TestMoreGaps(t *testing.T) { // P12.5
	valids(t, 5, func(r *rand.Rand, s string, l []api.Word) {
		gap := []string{" ", "\n", "\t", "\r", "\r\n\t "}[r.Intn(5)]
		for i, w := range l {
			again(t, l, s[:w.At]+gap+s[w.At:])
			if i > 0 {
				end := l[i-1].At + len(l[i-1].Text)
				again(t, l, s[:end]+gap+s[end:])
			}
		}
		for _, comment := range []string{"%", "% ?", "%\"_a\xff\n", "%\n%%"} {
			again(t, l, s+comment)
			if len(l) > 0 {
				end := l[len(l)-1].At + len(l[len(l)-1].Text)
				again(t, l, s[:end]+comment+"\n"+s[end:])
			}
		}
		again(t, l, spread(l, gap))
		again(t, l, spread(l, gap+"% 007\n"))
	})
}

// spread are the texts of tokens with a gap between them.
func spread(l []api.Word, gap string) string {
	var texts []string
	for _, w := range l {
		texts = append(texts, w.Text)
	}
	return strings.Join(texts, gap)
}
