package tuple_test

import (
	"math"
	"math/rand"
	"slices"
	"strings"
	"testing"

	"pedigree/api"
	"pedigree/tuple"
)

func is(v api.Value) api.Term { return api.Term{Kind: api.TConst, V: v} }

func vari(name string) api.Term { return api.Term{Kind: api.TVar, Name: name} }

func whatever() api.Term { return api.Term{Kind: api.TAny} }

// noTerms are terms that may not stand in a pattern.
func noTerms() []api.Term {
	l := []api.Term{
		{}, {Name: "X"}, {V: num(1)}, {Kind: 4}, {Kind: -1, Name: "X"}, {Kind: math.MaxInt}, {Kind: math.MinInt, V: num(1)},
		{Kind: api.TConst}, {Kind: api.TConst, Name: "X"}, {Kind: api.TConst, Name: "X", V: num(1)}, {Kind: api.TConst, Name: "\x00", V: sym("a")},
		{Kind: api.TVar}, vari(strings.Repeat("X", api.MaxName+1)), vari(strings.Repeat("X", 1000)),
		{Kind: api.TVar, Name: "X", V: num(0)}, {Kind: api.TVar, Name: "X", V: sym("")}, {Kind: api.TVar, Name: "X", V: api.Value{N: 1}}, {Kind: api.TVar, Name: "X", V: api.Value{S: "a"}}, {Kind: api.TVar, V: num(1)},
		{Kind: api.TAny, Name: "X"}, {Kind: api.TAny, Name: "_"}, {Kind: api.TAny, V: num(0)}, {Kind: api.TAny, V: api.Value{N: 1}}, {Kind: api.TAny, V: api.Value{S: "a"}},
	}
	for _, bad := range bads() {
		l = append(l, is(bad))
	}
	return l
}

// patterns are some that may be.
func patterns() [][]api.Term {
	return [][]api.Term{
		nil, {}, {whatever()}, {vari("X")}, {is(num(0))}, {is(sym(""))},
		{vari("x")}, {vari("\x00")}, {vari(" ")}, {vari("_")}, {vari("é")},
		{vari(strings.Repeat("X", api.MaxName-1))}, {vari(strings.Repeat("X", api.MaxName))}, {vari(strings.Repeat("\xff", api.MaxName))},
		{is(sym(strings.Repeat("a", api.MaxSym)))}, {is(num(math.MinInt64)), is(num(math.MaxInt64))},
		slices.Repeat([]api.Term{whatever()}, 8), slices.Repeat([]api.Term{vari("X")}, 8), slices.Repeat([]api.Term{is(num(1))}, 8),
		{vari("X"), whatever(), vari("Y"), is(num(1)), vari("X")},
	}
}

func TestCheckPattern(t *testing.T) { // P2.5
	for _, p := range patterns() {
		if e := tuple.CheckPattern(p); e != api.OK {
			t.Errorf("CheckPattern(%v) = %d", p, e)
		}
	}
	for _, x := range noTerms() {
		for _, p := range [][]api.Term{{x}, {vari("X"), x}, {x, whatever()}, append(slices.Repeat([]api.Term{whatever()}, 7), x)} {
			if e := tuple.CheckPattern(p); e != api.ErrPattern {
				t.Errorf("CheckPattern(%v) = %d", p, e)
			}
		}
	}
	for _, x := range []api.Term{whatever(), vari("X"), is(num(1))} {
		for _, n := range []int{9, 10, 70000} {
			if e := tuple.CheckPattern(slices.Repeat([]api.Term{x}, n)); e != api.ErrPattern {
				t.Errorf("CheckPattern of %d terms = %d", n, e)
			}
		}
	}
}

func TestMatch(t *testing.T) { // P2.5
	x, y, z, no := vari("X"), vari("Y"), vari("Z"), whatever()
	long := strings.Repeat("N", api.MaxName)
	bound := func(name string, n int64) api.Bound { return api.Bound{Name: name, V: num(n)} }
	for _, c := range []struct {
		p    []api.Term
		x    api.Tuple
		want []api.Bound
		ok   bool
	}{
		{nil, nil, nil, true},
		{[]api.Term{}, nil, nil, true},
		{nil, nums(1), nil, false},
		{[]api.Term{x}, nil, nil, false},
		{[]api.Term{x}, nums(1), []api.Bound{bound("X", 1)}, true},
		{[]api.Term{x}, nums(1, 2), nil, false},
		{[]api.Term{x, y}, nums(1), nil, false},
		{[]api.Term{x, x}, nums(3, 3), []api.Bound{bound("X", 3)}, true},
		{[]api.Term{x, x}, nums(3, 4), nil, false},
		{[]api.Term{x, x}, api.Tuple{num(3), sym("3")}, nil, false},
		{[]api.Term{x, y}, nums(3, 3), []api.Bound{bound("X", 3), bound("Y", 3)}, true},
		{[]api.Term{y, x, y, z, x}, nums(1, 2, 1, 3, 2), []api.Bound{bound("Y", 1), bound("X", 2), bound("Z", 3)}, true},
		{[]api.Term{y, x, y, z, x}, nums(1, 2, 1, 3, 1), nil, false},
		{[]api.Term{y, x, y, z, x}, nums(1, 2, 3, 3, 2), nil, false},
		{[]api.Term{z, y, x}, nums(1, 2, 3), []api.Bound{bound("Z", 1), bound("Y", 2), bound("X", 3)}, true},
		{[]api.Term{x, vari("x")}, nums(1, 2), []api.Bound{bound("X", 1), bound("x", 2)}, true},
		{[]api.Term{vari(long), vari(long[1:]), vari(long)}, nums(1, 2, 1), []api.Bound{bound(long, 1), bound(long[1:], 2)}, true},
		{[]api.Term{is(num(1))}, nums(1), nil, true},
		{[]api.Term{is(num(1))}, nums(2), nil, false},
		{[]api.Term{is(num(1))}, api.Tuple{sym("1")}, nil, false},
		{[]api.Term{is(sym("a"))}, api.Tuple{sym("a")}, nil, true},
		{[]api.Term{is(sym("a"))}, api.Tuple{sym("ab")}, nil, false},
		{[]api.Term{x, is(num(5))}, nums(4, 5), []api.Bound{bound("X", 4)}, true},
		{[]api.Term{x, is(num(5))}, nums(4, 6), nil, false}, // X was bound by then
		{[]api.Term{is(num(5)), x}, nums(4, 5), nil, false},
		{[]api.Term{no}, nums(1), nil, true},
		{[]api.Term{no, no}, nums(1, 2), nil, true},
		{[]api.Term{no, no}, nums(1), nil, false},
		{[]api.Term{x, no, x}, nums(1, 9, 1), []api.Bound{bound("X", 1)}, true},
		{[]api.Term{x, no, x}, nums(1, 9, 2), nil, false},
		{slices.Repeat([]api.Term{x}, 8), ones(8), []api.Bound{bound("X", 1)}, true},
		{slices.Repeat([]api.Term{x}, 8), ones(9), nil, false},
		{slices.Repeat([]api.Term{x}, 9), ones(9), nil, false},
		{slices.Repeat([]api.Term{no}, 9), ones(9), nil, false},
		{[]api.Term{x, no}, api.Tuple{{}, {Kind: 3}}, []api.Bound{{Name: "X"}}, true}, // values that may not be match too
		{[]api.Term{is(num(1))}, api.Tuple{{Kind: api.VInt, N: 1, S: "a"}}, nil, false},
		{[]api.Term{x, x}, api.Tuple{num(1), {Kind: api.VInt, N: 1, S: "a"}}, nil, false},
	} {
		got, ok := tuple.Match(c.p, c.x)
		if ok != c.ok || !slices.Equal(got, c.want) {
			t.Errorf("Match(%v, %v) = %v, %v", c.p, c.x, got, ok)
		}
	}
	for _, bad := range noTerms() { // a pattern that may not be matches nothing
		for _, p := range [][]api.Term{{bad}, {x, bad}, {bad, x}} {
			for _, v := range []api.Value{num(1), sym("a"), bad.V} {
				if got, ok := tuple.Match(p, slices.Repeat(api.Tuple{v}, len(p))); ok || len(got) != 0 {
					t.Errorf("Match(%v) = %v, %v", p, got, ok)
				}
			}
		}
	}
}

func TestMatchMakesNewMemory(t *testing.T) { // P2.5, rule 4
	p, x := []api.Term{vari("X"), vari("Y")}, nums(1, 2)
	a, _ := tuple.Match(p, x)
	clear(a[:cap(a)])
	b, ok := tuple.Match(p, x)
	if !ok || !slices.Equal(b, []api.Bound{{Name: "X", V: num(1)}, {Name: "Y", V: num(2)}}) || !same(x, nums(1, 2)) || !slices.Equal(p, []api.Term{vari("X"), vari("Y")}) {
		t.Errorf("Match(%v, %v) = %v, %v", p, x, b, ok)
	}
}

func TestSelect(t *testing.T) { // P2.5
	l := []api.Tuple{nums(2, 2), nums(1, 2), {sym("a"), num(2)}, nums(2), nil, nums(1, 1), nums(2, 2), {{}, {}}, ones(9), nums(3, 3)}
	for _, c := range []struct {
		p    []api.Term
		want []int // places in l
	}{
		{[]api.Term{vari("X"), vari("X")}, []int{0, 5, 6, 7, 9}}, // as they stand in l, one of them twice
		{[]api.Term{vari("X"), is(num(2))}, []int{0, 1, 2, 6}},
		{[]api.Term{whatever(), vari("X")}, []int{0, 1, 2, 5, 6, 7, 9}},
		{[]api.Term{is(num(1)), whatever()}, []int{1, 5}},
		{[]api.Term{is(num(4)), whatever()}, nil},
		{[]api.Term{whatever()}, []int{3}},
		{nil, []int{4}},
		{[]api.Term{whatever(), whatever(), whatever()}, nil},
		{[]api.Term{{}, whatever()}, nil},
		{[]api.Term{{Kind: api.TVar}, whatever()}, nil},
		{[]api.Term{whatever(), is(api.Value{})}, nil},
		{slices.Repeat([]api.Term{whatever()}, 9), nil},
	} {
		var want []api.Tuple
		for _, i := range c.want {
			want = append(want, l[i])
		}
		if got := tuple.Select(l, c.p); !sameLists(got, want) {
			t.Errorf("Select of %v = %v, not %v", c.p, got, want)
		}
	}
	if got := tuple.Select(nil, []api.Term{whatever()}); len(got) != 0 {
		t.Errorf("Select of nothing = %v", got)
	}
	many := pairs(api.MaxRel + 300)
	if got := tuple.Select(many, []api.Term{whatever(), vari("X")}); !sameLists(got, many) {
		t.Errorf("Select of %d = %d", len(many), len(got))
	}
}

// TestSelectIsMatch holds both against each other.
func TestSelectIsMatch(t *testing.T) { // P2.5
	r := rand.New(rand.NewSource(8))
	for range 500 {
		p := draw(r)
		var l, want []api.Tuple
		for range r.Intn(20) {
			l = append(l, some(r, r.Intn(4)))
		}
		for _, x := range l {
			if _, ok := tuple.Match(p, x); ok {
				want = append(want, x)
			}
		}
		if got := tuple.Select(l, p); !sameLists(got, want) {
			t.Fatalf("Select(%v, %v) = %v, not %v", l, p, got, want)
		}
	}
}

// draw is a short pattern.
func draw(r *rand.Rand) []api.Term {
	p := []api.Term{}
	for range r.Intn(4) {
		p = append(p, []api.Term{whatever(), vari("X"), vari("Y"), is(num(int64(r.Intn(3)))), is(sym(""))}[r.Intn(5)])
	}
	return p
}

func TestBindings(t *testing.T) { // P2.10
	r := rand.New(rand.NewSource(9))
	matched := 0
	for range 20000 {
		p := draw(r)
		x := some(r, len(p))
		bounds, ok := tuple.Match(p, x)
		if !ok {
			continue
		}
		matched++
		q := slices.Clone(p)
		for i, term := range q {
			if term.Kind == api.TVar {
				k := slices.IndexFunc(bounds, func(b api.Bound) bool { return b.Name == term.Name })
				if k < 0 {
					t.Fatalf("Match(%v, %v) does not bind %s", p, x, term.Name)
				}
				q[i] = is(bounds[k].V)
			}
		}
		if more, ok := tuple.Match(q, x); !ok || len(more) != 0 {
			t.Fatalf("%v matches %v, and its bindings make %v of it: %v, %v", x, p, q, more, ok)
		}
	}
	if matched < 1000 {
		t.Errorf("just %d matched", matched)
	}
}

func TestPatternOfConstants(t *testing.T) { // P2.10
	for _, x := range goods() {
		p := []api.Term{}
		for _, v := range x {
			p = append(p, is(v))
		}
		for _, y := range every() {
			if got, ok := tuple.Match(p, y); ok != same(x, y) || len(got) != 0 {
				t.Errorf("Match(%v, %v) = %v, %v", p, y, got, ok)
			}
		}
	}
}
