package parse_test

import (
	"regexp"
	"strings"

	"pedigree/api"
	"pedigree/lex"
)

// The document's grammar, gone through as it stands there.
const written = `
program = { clause }
clause  = ( "base" | "view" ) NAME "(" [ type { "," type } ] ")" "."
        | "on" NAME "(" [ VAR type { "," VAR type } ] ")" [ ":" act { "," act } ] "."
        | rule
rule    = atom [ ":-" literal { "," literal } ] "."
type    = "int" | "sym"
act     = ( "+" | "-" ) atom
literal = "not" atom | atom | term op term
op      = "=" | "!=" | "<" | "<=" | ">" | ">="
atom    = NAME "(" [ term { "," term } ] ")"
term    = VAR | WInt | WSym | "_"
`

// grammar is the document's: each name with what stands behind its =.
type grammar map[string][]string

func theGrammar() grammar {
	g := grammar{}
	name := ""
	for _, w := range regexp.MustCompile(`\w+\s*=\s|"[^"]+"|\S+`).FindAllString(written, -1) {
		if before, is := strings.CutSuffix(strings.TrimSpace(w), "="); is && before != "" && w[0] != '"' {
			name = strings.TrimSpace(before)
		} else {
			g[name] = append(g[name], w)
		}
	}
	return g
}

// net is a grammar as states: some lead on by themselves, others by a token of a sort. From each, the last one can be reached, since everything in the grammar has a text.
type net struct {
	grammar
	aside [][]int
	sort  []string
	next  []int
	words []string // of what is being laid, those ahead
}

func netOf(g grammar, name string) (*net, int) {
	n := &net{grammar: g}
	return n, n.named(name, n.state())
}

func (n *net) state() int {
	n.aside, n.sort, n.next = append(n.aside, nil), append(n.sort, ""), append(n.next, 0)
	return len(n.aside) - 1
}

func (n *net) lead(from, to int) { n.aside[from] = append(n.aside[from], to) }

// named lays what a name stands for behind a state, and tells where it ends.
func (n *net) named(name string, from int) int {
	ahead := n.words
	n.words = n.grammar[name]
	to := n.either(from)
	n.words = ahead
	return to
}

// either lays rows of things, up to a closing bracket.
func (n *net) either(from int) int {
	to := n.state()
	for {
		n.lead(n.row(from), to)
		if len(n.words) == 0 || n.words[0] != "|" {
			return to
		}
		n.words = n.words[1:]
	}
}

func (n *net) row(at int) int {
	for len(n.words) > 0 && !strings.Contains("|)]}", n.words[0]) {
		at = n.one(at)
	}
	return at
}

func (n *net) one(from int) int {
	w := n.words[0]
	n.words = n.words[1:]
	switch {
	case strings.Contains("([{", w):
		start := n.state()
		n.lead(from, start)
		to := n.either(start)
		n.words = n.words[1:]
		if w == "{" {
			n.lead(to, start)
		}
		if w != "(" {
			n.lead(start, to)
		}
		return to
	case n.grammar[w] != nil:
		return n.named(w, from)
	}
	via, to := n.state(), n.state()
	n.lead(from, via)
	n.sort[via], n.next[via] = w, to
	return to
}

// of tells whether a token is of a sort.
func of(w api.Word, sort string) bool {
	switch sort {
	case "":
		return false
	case "NAME":
		return w.Kind == api.WName && w.Text != "base" && w.Text != "view" && w.Text != "on" && w.Text != "not"
	case "VAR":
		return w.Kind == api.WVar
	case "WInt":
		return w.Kind == api.WInt
	case "WSym":
		return w.Kind == api.WSym
	}
	return `"`+w.Text+`"` == sort
}

// reach are the states that some lead to by themselves, and these.
func (n *net) reach(l []int) map[int]bool {
	seen := map[int]bool{}
	for len(l) > 0 {
		s := l[len(l)-1]
		l = l[:len(l)-1]
		if !seen[s] {
			seen[s] = true
			l = append(l, n.aside[s]...)
		}
	}
	return seen
}

// expected is what the grammar says of a text: OK and 0, or an error and its offset.
type expected struct {
	g    grammar
	nets map[string]*net
	ends map[string]int
}

func theExpected() *expected {
	x := &expected{theGrammar(), map[string]*net{}, map[string]int{}}
	for _, kind := range []string{"program", "rule", "atom"} {
		x.nets[kind], x.ends[kind] = netOf(x.g, kind)
	}
	return x
}

func (x *expected) of(kind, s string) (int, api.Errno) {
	l, at, e := lex.Words(s)
	if e != api.OK {
		return at, e
	}
	n := x.nets[kind]
	now := n.reach([]int{0})
	for _, w := range l {
		var then []int
		for s := range now {
			if of(w, n.sort[s]) {
				then = append(then, n.next[s])
			}
		}
		if len(then) == 0 {
			return w.At, 130
		}
		now = n.reach(then)
	}
	if !now[x.ends[kind]] {
		return len(s), 130
	}
	return 0, api.OK
}
