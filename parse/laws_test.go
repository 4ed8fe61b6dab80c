package parse_test

import (
	"math/rand"
	"slices"
	"strconv"
	"strings"
	"testing"

	"pedigree/api"
	"pedigree/lex"
	"pedigree/parse"
	"pedigree/value"
)

// P13.3 to P13.5: the consequences, on programs that are drawn together with their tokens; and P13.1 on these.

// clause is one of a program, and its tokens.
type clause struct {
	of    api.Program
	words []string
}

// both is the program with the clauses of two.
func both(a, b api.Program) api.Program {
	return api.Program{Decls: slices.Concat(a.Decls, b.Decls), Ons: slices.Concat(a.Ons, b.Ons), Rules: slices.Concat(a.Rules, b.Rules)}
}

// drawer draws parts of programs, and adds their tokens to those of the clause at hand.
type drawer struct {
	*rand.Rand
	words []string
}

func (d *drawer) say(l ...string) { d.words = append(d.words, l...) }

func (d *drawer) one(l ...string) string {
	s := l[d.Intn(len(l))]
	d.say(s)
	return s
}

// some draws parts with commas between them.
func some[T any](d *drawer, least int, part func() T) []T {
	var l []T
	for i := range least + d.Intn(4) {
		if i > 0 {
			d.say(",")
		}
		l = append(l, part())
	}
	return l
}

// within draws parts in parentheses.
func within[T any](d *drawer, part func() T) []T {
	d.say("(")
	defer d.say(")")
	return some(d, 0, part)
}

func (d *drawer) name() string {
	return d.one("p", "q", "edge", "int", "sym", "nota", "on_1", "z9", "vIEW")
}

func (d *drawer) variable() string { return d.one("X", "Y", "Base", "On", "A_0", "ZZ") }

func (d *drawer) kind() api.Type {
	return api.Type(1 + slices.Index([]string{"int", "sym"}, d.one("int", "sym")))
}

func (d *drawer) term() api.Term {
	switch d.Intn(4) {
	case 0:
		return variable(d.variable())
	case 1:
		d.say("_")
		return anything()
	case 2:
		n, _ := strconv.ParseInt(d.one("0", "7", "-1", "-30", "9223372036854775807", "-9223372036854775808"), 10, 64)
		return num(n)
	}
	c := sym([]string{"", "a", "\"", "\\", "%", " ", "\n", "p(X).", "\xff\x00", "not", ":-"}[d.Intn(11)])
	s, _ := value.Text(c.V)
	d.say(s)
	return c
}

func (d *drawer) atom() api.Atom { return api.Atom{Pred: d.name(), Args: within(d, d.term)} }

func (d *drawer) literal() api.Literal {
	switch d.Intn(3) {
	case 0:
		return pos(d.atom())
	case 1:
		d.say("not")
		return neg(d.atom())
	}
	ops := []string{"=", "!=", "<", "<=", ">", ">="}
	a := d.term()
	op := d.one(ops...)
	return compared(a, api.CmpOp(1+slices.Index(ops, op)), d.term())
}

func (d *drawer) rule() api.Rule {
	r := api.Rule{Head: d.atom()}
	if d.Intn(4) > 0 {
		d.say(":-")
		r.Body = some(d, 1, d.literal)
	}
	d.say(".")
	return r
}

func (d *drawer) decl() api.Decl {
	l := api.Decl{Base: d.one("base", "view") == "base", Name: d.name(), Types: within(d, d.kind)}
	d.say(".")
	return l
}

func (d *drawer) on() api.On {
	d.say("on")
	o := api.On{Event: d.name(), Params: within(d, func() api.Param { return api.Param{Name: d.variable(), Type: d.kind()} })}
	if d.Intn(4) > 0 {
		d.say(":")
		o.Acts = some(d, 1, func() api.Act { return api.Act{Plus: d.one("+", "-") == "+", Atom: d.atom()} })
	}
	d.say(".")
	return o
}

func (d *drawer) clause() clause {
	d.words = nil
	var p api.Program
	switch d.Intn(3) {
	case 0:
		p = decls(d.decl())
	case 1:
		p = ons(d.on())
	default:
		p = rules(d.rule())
	}
	return clause{p, d.words}
}

// program draws a program of up to some clauses, and its tokens.
func (d *drawer) program(most int) (api.Program, []string) {
	var p api.Program
	var words []string
	for range d.Intn(most + 1) {
		c := d.clause()
		p, words = both(p, c.of), append(words, c.words...)
	}
	return p, words
}

// programs calls a function with drawn programs and their tokens.
func programs(seed int64, times int, each func(d *drawer, p api.Program, words []string)) {
	d := &drawer{Rand: rand.New(rand.NewSource(seed))}
	for range times {
		p, words := d.program(6)
		each(d, p, words)
	}
}

func TestDrawnPrograms(t *testing.T) { // P13.1
	clauses := 0
	programs(13, 3000, func(d *drawer, p api.Program, words []string) {
		clauses += len(p.Decls) + len(p.Ons) + len(p.Rules)
		gives(t, parse.Program, drawnText(d.Rand, words), p)
	})
	if clauses < 8000 {
		t.Errorf("%d clauses", clauses)
	}
	d := &drawer{Rand: rand.New(rand.NewSource(14))}
	for range 3000 {
		d.words = nil
		a := d.atom()
		gives(t, parse.Atom, drawnText(d.Rand, d.words), a)
	}
}

// TestGaps: whatever the gaps and comments are, the same tokens have the same meaning, or another one that does not fit.
func TestGaps(t *testing.T) { // P13.3
	programs(3, 1000, func(d *drawer, p api.Program, words []string) {
		for range 4 {
			s := drawnText(d.Rand, words)
			gap := gaps()[d.Intn(len(gaps()))]
			gives(t, parse.Program, s, p)
			gives(t, parse.Program, gap+s+gap, p)
			gives(t, parse.Program, strings.Join(words, gap), p)
			gives(t, parse.Program, s+"% c", p)
		}
		if len(words) > 0 {
			words[d.Intn(len(words))] = tokens()[d.Intn(len(tokens()))]
		}
		_, at, e := parse.Program(spaced(words))
		n := whichToken(spaced(words), at)
		for range 4 {
			s := drawnText(d.Rand, words)
			_, at, e2 := parse.Program(s)
			if e2 != e || e != api.OK && whichToken(s, at) != n {
				t.Errorf("of %q: %d at %d, want %d at token %d", s, e2, at, e, n)
			}
		}
	})
}

// whichToken is the place of the token at an offset among all of them.
func whichToken(s string, at int) int {
	l, _, _ := lex.Words(s)
	n, _ := slices.BinarySearchFunc(l, at, func(w api.Word, at int) int { return w.At - at })
	return n
}

// TestConcatenation: of texts of programs, the text of the program with the clauses of both.
func TestConcatenation(t *testing.T) { // P13.4
	programs(4, 2000, func(d *drawer, p api.Program, words []string) {
		q, more := d.program(6)
		a, b := drawnText(d.Rand, words), drawnText(d.Rand, more)
		gives(t, parse.Program, a+b, both(p, q))
		gives(t, parse.Program, a+"\n"+b, both(p, q))
		gives(t, parse.Program, a+"% c\n"+b+" ", both(p, q))
		gives(t, parse.Program, a+b+a, both(both(p, q), p))
		x, _, _ := parse.Program(a)
		y, _, _ := parse.Program(b)
		xy, _, _ := parse.Program(a + b)
		if !parse.Same(both(x, y), xy) {
			t.Errorf("of %q and %q: %v, %v, %v", a, b, x, y, xy)
		}
	})
}

// TestNoProgramStaysNone: behind a token that does not fit nothing helps; behind an early end something may.
func TestNoProgramStaysNone(t *testing.T) { // P13.4
	faults, early := 0, 0
	programs(5, 4000, func(d *drawer, _ api.Program, words []string) {
		if len(words) == 0 {
			return
		}
		i := d.Intn(len(words))
		switch d.Intn(3) {
		case 0:
			words[i] = tokens()[d.Intn(len(tokens()))]
		case 1:
			words = slices.Delete(words, i, i+1)
		default:
			words = words[:i]
		}
		s := drawnText(d.Rand, words)
		_, at, e := parse.Program(s)
		if e == api.OK {
			return
		}
		if at == len(s) {
			early++
			return
		}
		faults++
		_, more := d.program(3)
		for _, w := range append(tokens(), drawnText(d.Rand, more), strings.Repeat(" )", 9), "% c", "") {
			misfits(t, parse.Program, s+"\n"+w, at)
		}
		misfits(t, parse.Program, s+" "+s, at)
		fails(t, parse.Program, s+"\n?", len(s)+1, 120)
	})
	if faults < 1000 || early < 500 {
		t.Errorf("%d that do not fit, %d that end too early", faults, early)
	}
}

// TestEarlyEnds: each beginning of a program's tokens ends too early or is a program, and with the others behind it, it is the program.
func TestEarlyEnds(t *testing.T) { // P13.4
	programs(6, 300, func(d *drawer, p api.Program, words []string) {
		for i := range words {
			a, b := drawnText(d.Rand, words[:i]), drawnText(d.Rand, words[i:])
			if i > 0 && words[i-1] == "." {
				if _, at, e := parse.Program(a); at != 0 || e != api.OK {
					t.Errorf("of %q: %d, %d", a, at, e)
				}
			} else if i > 0 {
				misfits(t, parse.Program, a, len(a))
			}
			gives(t, parse.Program, a+"\n"+b, p)
		}
	})
}

// TestRuleIsProgram: a text that is a rule is a program with this rule alone; one that is not one is no program of rules, or of more than one, or of none.
func TestRuleIsProgram(t *testing.T) { // P13.5
	d := &drawer{Rand: rand.New(rand.NewSource(7))}
	for range 3000 {
		d.words = nil
		r := d.rule()
		s := drawnText(d.Rand, d.words)
		gives(t, parse.Rule, s, r)
		gives(t, parse.Program, s, rules(r))
		i := d.Intn(len(d.words))
		d.words[i] = tokens()[d.Intn(len(tokens()))]
		s = drawnText(d.Rand, d.words)
		r, at, e := parse.Rule(s)
		p, pat, pe := parse.Program(s)
		if e == api.OK && (pe != api.OK || !parse.Same(p, rules(r))) {
			t.Errorf("of %q: %v, but %v, %d", s, r, p, pe)
		}
		if first := d.words[0]; e != api.OK && first != "base" && first != "view" && first != "on" && (pe != e || pat != at) && len(p.Rules) < 2 {
			t.Errorf("of %q: %d at %d, but %v, %d at %d", s, e, at, p, pe, pat)
		}
	}
	programs(8, 1000, func(d *drawer, p api.Program, words []string) {
		s := drawnText(d.Rand, words)
		_, _, e := parse.Rule(s)
		if alone := len(p.Decls)+len(p.Ons) == 0 && len(p.Rules) == 1; alone != (e == api.OK) {
			t.Errorf("of %q: %d, but %v", s, e, p)
		}
	})
}
