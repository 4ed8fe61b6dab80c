package strat_test

import (
	"cmp"
	"slices"
	"testing"

	"pedigree/api"
	"pedigree/strat"
)

// The document's definitions, written out once more and in another way: for each two relations whether one depends on the other, until that does not change.

type defined struct {
	p     api.Program
	names []string
	asks  [][]bool // by the places of the names
	neg   [][]bool // through a dependence with Neg
	heads []bool
}

func square(n int) [][]bool {
	l := make([][]bool, n)
	for i := range l {
		l[i] = make([]bool, n)
	}
	return l
}

func define(p api.Program) *defined {
	d := &defined{p: p}
	for _, x := range p.Decls {
		d.names = append(d.names, x.Name)
	}
	for _, u := range p.Rules {
		d.names = append(d.names, u.Head.Pred)
		for _, l := range u.Body {
			if l.Kind == 1 || l.Kind == 2 {
				d.names = append(d.names, l.Atom.Pred)
			}
		}
	}
	slices.Sort(d.names)
	d.names = slices.Compact(d.names)
	n := len(d.names)
	d.asks, d.neg, d.heads = square(n), square(n), make([]bool, n)
	for _, u := range p.Rules {
		from := d.place(u.Head.Pred)
		d.heads[from] = true
		for _, l := range u.Body {
			if l.Kind == 1 || l.Kind == 2 {
				to := d.place(l.Atom.Pred)
				d.asks[from][to] = true
				d.neg[from][to] = d.neg[from][to] || l.Kind == 2
			}
		}
	}
	for d.further() {
	}
	return d
}

// further adds what depends on something by way of a third, and tells if there was any.
func (d *defined) further() bool {
	more := false
	set := func(is bool, at *bool) {
		if is && !*at {
			*at, more = true, true
		}
	}
	for a := range d.names {
		for b := range d.names {
			for c := range d.names {
				set(d.asks[a][b] && d.asks[b][c], &d.asks[a][c])
				set(d.asks[a][b] && d.neg[b][c] || d.neg[a][b] && d.asks[b][c], &d.neg[a][c])
			}
		}
	}
	return more
}

func (d *defined) place(name string) int { return slices.Index(d.names, name) }

func (d *defined) Asks(from, to string) (bool, bool) {
	a, b := d.place(from), d.place(to)
	if a < 0 || b < 0 {
		return false, false
	}
	return d.asks[a][b], d.neg[a][b]
}

func (d *defined) Below(name string) []string {
	var l []string
	for _, s := range d.names {
		if is, _ := d.Asks(name, s); is {
			l = append(l, s)
		}
	}
	return l
}

func (d *defined) Deps() []api.Dep {
	var l []api.Dep
	for _, from := range d.names {
		for _, to := range d.names {
			for _, kind := range []api.LitKind{1, 2} {
				if slices.ContainsFunc(d.p.Rules, func(u api.Rule) bool {
					return u.Head.Pred == from && slices.ContainsFunc(u.Body, func(l api.Literal) bool { return l.Kind == kind && l.Atom.Pred == to })
				}) {
					l = append(l, api.Dep{From: from, To: to, Neg: kind == 2})
				}
			}
		}
	}
	return l
}

// together is whether two relations are of one stratum.
func (d *defined) together(a, b int) bool {
	return a == b || d.asks[a][b] && d.asks[b][a]
}

func (d *defined) level(a int) int {
	n := 0
	for b := range d.names {
		for c := range d.names { // c is of a's stratum, b of another one on which it depends
			if d.together(a, c) && !d.together(a, b) && d.heads[b] && d.asks[c][b] {
				n = max(n, d.level(b))
			}
		}
	}
	return n + 1
}

func (d *defined) stratum(a int) api.Stratum {
	s := api.Stratum{Level: d.level(a)}
	for b, name := range d.names {
		if d.together(a, b) {
			s.Names = append(s.Names, name)
			s.Recursive = s.Recursive || d.asks[b][b]
		}
	}
	for i, u := range d.p.Rules {
		if slices.Contains(s.Names, u.Head.Pred) {
			s.Rules = append(s.Rules, i)
		}
	}
	return s
}

func (d *defined) Strata() ([]api.Stratum, string, api.Errno) {
	for a, name := range d.names {
		if d.neg[a][a] {
			return nil, name, 160
		}
	}
	var l []api.Stratum
	for a, head := range d.heads {
		if s := d.stratum(a); head && s.Names[0] == d.names[a] {
			l = append(l, s)
		}
	}
	slices.SortStableFunc(l, func(a, b api.Stratum) int { return cmp.Compare(a.Level, b.Level) })
	return l, "", 0
}

// likeDefined asks all functions of the package about a program.
func likeDefined(t *testing.T, p api.Program) {
	t.Helper()
	d := define(p)
	hasNames(t, "Names", strat.Names(p), d.names...)
	if a, b := strat.Deps(p), d.Deps(); !slices.Equal(a, b) {
		t.Errorf("Deps = %v instead of %v", a, b)
	}
	names := append(slices.Clone(d.names), "nobody")
	for _, from := range names {
		hasNames(t, "Below "+from, strat.Below(p, from), d.Below(from)...)
		for _, to := range names {
			a, b := strat.Asks(p, from, to)
			if x, y := d.Asks(from, to); a != x || b != y {
				t.Errorf("Asks %q, %q = %v, %v instead of %v, %v", from, to, a, b, x, y)
			}
		}
	}
	a, s, e := strat.Strata(p)
	if b, name, f := d.Strata(); s != name || e != f || !slices.EqualFunc(a, b, sameStratum) {
		t.Errorf("Strata = %v, %q, %d instead of %v, %q, %d", a, s, e, b, name, f)
	}
	if t.Failed() {
		t.Fatalf("of %+v", p)
	}
}

// everySmall goes through all programs of three relations that have, between each two, no dependence, one without Neg or one with Neg, once with a rule for each and once with a rule for each dependence.
func everySmall(each func(p api.Program)) {
	names := []string{"a", "b", "c"}
	for i := range 19683 {
		var whole, parts api.Program
		for _, from := range names {
			r := rule(from)
			for _, to := range names {
				if i%3 > 0 {
					l := literal(api.LitKind(i%3), to)
					r.Body = append(r.Body, l)
					parts.Rules = append(parts.Rules, rule(from, l))
				}
				i /= 3
			}
			whole.Rules = append(whole.Rules, r)
		}
		each(whole)
		each(parts)
	}
}

func TestEverySmall(t *testing.T) { // P16.1, P16.2
	everySmall(func(p api.Program) { likeDefined(t, p) })
}

func TestDrawn(t *testing.T) { // P16.1, P16.2
	seen := map[api.Errno]int{}
	levels := map[int]int{}
	drawn(16, 8000, 9, func(_ *drawer, p api.Program) {
		likeDefined(t, p)
		l, _, e := strat.Strata(p)
		seen[e]++
		for _, s := range l {
			levels[s.Level]++
		}
	})
	if seen[0] < 1000 || seen[160] < 1000 || levels[1] < 1000 || levels[2] < 1000 || levels[3] < 500 || levels[4] < 100 || levels[5] < 20 {
		t.Errorf("too few of a kind: %v, %v", seen, levels)
	}
}
