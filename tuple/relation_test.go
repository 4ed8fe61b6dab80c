package tuple_test

import (
	"math/rand"
	"slices"
	"testing"

	"pedigree/api"
	"pedigree/tuple"
)

func TestCheckRel(t *testing.T) { // P2.3
	bad := api.Tuple{num(1), {}}
	full := pairs(api.MaxRel)
	with := func(i int, x api.Tuple) []api.Tuple { // the greatest relation with one other tuple
		l := slices.Clone(full)
		l[i] = x
		return l
	}
	for _, c := range []struct {
		what string
		l    []api.Tuple
		want api.Errno
	}{
		{"nothing", nil, api.OK},
		{"nothing", []api.Tuple{}, api.OK},
		{"the empty tuple", []api.Tuple{{}}, api.OK},
		{"nil", []api.Tuple{nil}, api.OK},
		{"the empty tuple twice", []api.Tuple{{}, nil}, api.ErrRel},
		{"one", []api.Tuple{nums(3)}, api.OK},
		{"some", []api.Tuple{nums(-1), nums(2), {sym("")}, {sym("a")}}, api.OK},
		{"types mixed", []api.Tuple{{num(1), sym("b")}, {sym("a"), num(1)}}, api.OK},
		{"eight values", []api.Tuple{ones(8), nums(1, 1, 1, 1, 1, 1, 1, 2)}, api.OK},
		{"nine values", []api.Tuple{ones(9)}, api.ErrTuple},
		{"not in order", []api.Tuple{nums(2), nums(1)}, api.ErrRel},
		{"not in order at the end", []api.Tuple{nums(1), nums(2), nums(4), nums(3)}, api.ErrRel},
		{"one twice", []api.Tuple{nums(1), nums(1)}, api.ErrRel},
		{"one twice at the end", []api.Tuple{nums(1), nums(2), nums(2)}, api.ErrRel},
		{"one twice, apart", []api.Tuple{nums(1), nums(2), nums(1)}, api.ErrRel},
		{"rising, but of more values", []api.Tuple{nums(1), nums(1, 1)}, api.ErrRel},
		{"rising, but of fewer values", []api.Tuple{nums(1, 1), nums(2)}, api.ErrRel},
		{"rising from the empty tuple", []api.Tuple{{}, nums(2)}, api.ErrRel},
		{"rising, but of more values at the end", []api.Tuple{nums(1), nums(2), nums(3, 0)}, api.ErrRel},
		{"one that may not be", []api.Tuple{bad}, api.ErrTuple},
		{"not in order, then one that may not be", []api.Tuple{nums(2, 2), nums(1, 1), bad}, api.ErrTuple},
		{"more values, then one that may not be", []api.Tuple{nums(1), nums(1, 2), bad}, api.ErrTuple},
		{"one that may not be, then not in order", []api.Tuple{bad, nums(2, 2), nums(1, 1)}, api.ErrTuple},
		{"65536", full, api.OK},
		{"65535", full[1:], api.OK},
		{"65536, not in order", with(api.MaxRel-1, nums(0, 0)), api.ErrRel},
		{"65536, the last may not be", with(api.MaxRel-1, bad), api.ErrTuple},
		{"65536, the first may not be", with(0, bad), api.ErrTuple},
		{"65537", pairs(api.MaxRel + 1), api.ErrMany},
		{"65537, the first may not be", append(with(0, bad), nums(9999, 9999)), api.ErrMany},
		{"65537, not in order", append(full[:len(full):len(full)], nums(0, 0)), api.ErrMany},
		{"65537 times nil", make([]api.Tuple, api.MaxRel+1), api.ErrMany},
		{"65536 times nil", make([]api.Tuple, api.MaxRel), api.ErrRel},
	} {
		if e := tuple.CheckRel(c.l); e != c.want {
			t.Errorf("CheckRel of %s = %d, not %d", c.what, e, c.want)
		}
	}
}

func TestSorted(t *testing.T) { // P2.3
	if l := tuple.Sorted(); len(l) != 0 {
		t.Errorf("Sorted() = %v", l)
	}
	if l := tuple.Sorted(nums(3), nil, nums(1), nums(3), api.Tuple{}, nums(1, 2)); !sameLists(l, []api.Tuple{{}, nums(1), nums(1, 2), nums(3)}) {
		t.Errorf("Sorted = %v", l)
	}
	r := rand.New(rand.NewSource(5))
	for _, want := range [][]api.Tuple{goods(), wrongs(), {nums(1)}, pairs(70000)} {
		l := slices.Concat(want, want, want[:len(want)/2])
		r.Shuffle(len(l), func(i, j int) { l[i], l[j] = l[j], l[i] })
		if got := tuple.Sorted(l...); !sameLists(got, want) {
			t.Errorf("Sorted of %d tuples, each two or three times, are %d", len(want), len(got))
		}
		if got := tuple.Sorted(want...); !sameLists(got, want) {
			t.Errorf("Sorted of %d rising tuples are %d others", len(want), len(got))
		}
	}
}

func TestPlace(t *testing.T) { // P2.3
	for _, c := range []struct {
		l     []api.Tuple
		x     api.Tuple
		n     int
		there bool
	}{
		{nil, nil, 0, false},
		{nil, nums(1), 0, false},
		{[]api.Tuple{nil}, api.Tuple{}, 0, true},
		{[]api.Tuple{nums(1), nums(3), nums(5)}, nums(0), 0, false},
		{[]api.Tuple{nums(1), nums(3), nums(5)}, nums(1), 0, true},
		{[]api.Tuple{nums(1), nums(3), nums(5)}, nums(4), 2, false},
		{[]api.Tuple{nums(1), nums(3), nums(5)}, nums(5), 2, true},
		{[]api.Tuple{nums(1), nums(3), nums(5)}, nums(6), 3, false},
		{[]api.Tuple{nums(1), nums(3), nums(5)}, nums(3, 0), 2, false},
		{[]api.Tuple{nums(1, 1), nums(3, 1)}, nums(3), 1, false},
		{[]api.Tuple{nums(5), nums(1), nums(7), nums(1), nums(3)}, nums(3), 2, true}, // does not rise, has one twice
		{[]api.Tuple{nums(9), nums(1), nums(8)}, nums(8), 1, true},
		{[]api.Tuple{nums(9), nums(1), nums(8)}, nums(2), 1, false},
		{[]api.Tuple{nums(2), nums(2), nums(2)}, nums(2), 0, true},
		{[]api.Tuple{nums(2), nums(2), nums(2)}, nums(3), 3, false},
		{[]api.Tuple{{{Kind: 3}}, {{}}, nums(1)}, api.Tuple{{Kind: 3}}, 2, true}, // what may not be
		{[]api.Tuple{ones(10), ones(8), ones(9)}, ones(9), 1, true},
	} {
		if n, there := tuple.Place(c.l, c.x); n != c.n || there != c.there {
			t.Errorf("Place(%v, %v) = %d, %v", c.l, c.x, n, there)
		}
	}
	for _, l := range [][]api.Tuple{goods(), wrongs()} {
		for i, x := range l {
			if n, there := tuple.Place(l, x); n != i || !there {
				t.Errorf("Place of %v = %d, %v, not %d", x, n, there, i)
			}
		}
	}
}

func TestSets(t *testing.T) { // P2.4
	a, b := []api.Tuple{nums(3), nums(1), nums(3), nil, nums(2)}, []api.Tuple{nums(4), nums(2), nums(4), nums(3), nums(2)}
	if l := tuple.Union(a, b); !sameLists(l, []api.Tuple{{}, nums(1), nums(2), nums(3), nums(4)}) {
		t.Errorf("Union = %v", l)
	}
	if l := tuple.Minus(a, b); !sameLists(l, []api.Tuple{{}, nums(1)}) {
		t.Errorf("Minus = %v", l)
	}
	if l := tuple.Both(a, b); !sameLists(l, []api.Tuple{nums(2), nums(3)}) {
		t.Errorf("Both = %v", l)
	}
	if plus, minus := tuple.Diff(a, b); !sameLists(plus, []api.Tuple{nums(4)}) || !sameLists(minus, []api.Tuple{{}, nums(1)}) {
		t.Errorf("Diff = %v, %v", plus, minus)
	}
	plus, minus := []api.Tuple{nums(9), nums(1), nums(7), nums(9)}, []api.Tuple{nums(8), nums(2), nums(1), nums(7), nums(2)}
	if l := tuple.Apply(a, plus, minus); !sameLists(l, []api.Tuple{{}, nums(1), nums(3), nums(7), nums(9)}) { // 1 and 7 are in plus and in minus: they are in
		t.Errorf("Apply = %v", l)
	}
}

// has tells whether a tuple is in a list.
func has(l []api.Tuple, x api.Tuple) bool {
	return slices.ContainsFunc(l, func(y api.Tuple) bool { return same(x, y) })
}

// TestSetsByMembers asks of each tuple whether it is where the document says, and of each answer whether it rises.
func TestSetsByMembers(t *testing.T) { // P2.4
	all := append(every(), nums(1, 1, 1, 1), nums(5))
	all = tuple.Sorted(all...)
	r := rand.New(rand.NewSource(6))
	draw := func() []api.Tuple { // in no order, some twice, some that may not be
		var l []api.Tuple
		for range r.Intn(2 * len(all)) {
			l = append(l, all[r.Intn(len(all))])
		}
		return l
	}
	for i := range 500 {
		a, b, c := draw(), draw(), draw()
		switch i % 50 {
		case 0:
			a = nil
		case 1:
			b = nil
		case 2:
			b = a
		case 3:
			c = nil
		}
		plus, minus := tuple.Diff(a, b)
		for _, f := range []struct {
			name string
			got  []api.Tuple
			in   func(x api.Tuple) bool
		}{
			{"Union", tuple.Union(a, b), func(x api.Tuple) bool { return has(a, x) || has(b, x) }},
			{"Minus", tuple.Minus(a, b), func(x api.Tuple) bool { return has(a, x) && !has(b, x) }},
			{"Both", tuple.Both(a, b), func(x api.Tuple) bool { return has(a, x) && has(b, x) }},
			{"Apply", tuple.Apply(a, b, c), func(x api.Tuple) bool { return has(b, x) || has(a, x) && !has(c, x) }},
			{"Diff's first", plus, func(x api.Tuple) bool { return has(b, x) && !has(a, x) }},
			{"Diff's second", minus, func(x api.Tuple) bool { return has(a, x) && !has(b, x) }},
			{"Sorted", tuple.Sorted(a...), func(x api.Tuple) bool { return has(a, x) }},
		} {
			var want []api.Tuple
			for _, x := range all { // these rise
				if f.in(x) {
					want = append(want, x)
				}
			}
			if !sameLists(f.got, want) {
				t.Fatalf("%s of %v, %v, %v = %v, not %v", f.name, a, b, c, f.got, want)
			}
		}
	}
}

func TestSetsOfMany(t *testing.T) { // P2.4: no limit stands there
	l := pairs(140000)
	a, b := l[:90000], l[60000:]
	if x := tuple.Union(b, a); !sameLists(x, l) {
		t.Errorf("Union has %d", len(x))
	}
	if x := tuple.Minus(a, b); !sameLists(x, l[:60000]) {
		t.Errorf("Minus has %d", len(x))
	}
	if x := tuple.Both(a, b); !sameLists(x, l[60000:90000]) {
		t.Errorf("Both has %d", len(x))
	}
}

// TestNewMemory scribbles over what each call answers: what it was given, and what else it answered, stays as it is.
func TestNewMemory(t *testing.T) { // rule 4, P2.3, P2.4, P2.5
	any1 := []api.Term{{Kind: api.TAny}}
	for name, f := range map[string]func(a, b, c []api.Tuple) [][]api.Tuple{
		"Sorted": func(a, _, _ []api.Tuple) [][]api.Tuple { return [][]api.Tuple{tuple.Sorted(a...), tuple.Sorted(a...)} },
		"Union":  func(a, b, _ []api.Tuple) [][]api.Tuple { return [][]api.Tuple{tuple.Union(a, b), tuple.Union(b, a)} },
		"Minus":  func(a, b, _ []api.Tuple) [][]api.Tuple { return [][]api.Tuple{tuple.Minus(a, b), tuple.Minus(a, nil)} },
		"Both":   func(a, b, _ []api.Tuple) [][]api.Tuple { return [][]api.Tuple{tuple.Both(a, b), tuple.Both(a, a)} },
		"Apply": func(a, b, c []api.Tuple) [][]api.Tuple {
			return [][]api.Tuple{tuple.Apply(a, b, c), tuple.Apply(a, nil, nil)}
		},
		"Diff": func(a, b, _ []api.Tuple) [][]api.Tuple {
			plus, minus := tuple.Diff(a, b)
			return [][]api.Tuple{plus, minus}
		},
		"Select": func(a, _, _ []api.Tuple) [][]api.Tuple {
			return [][]api.Tuple{tuple.Select(a, any1), tuple.Select(a, any1)}
		},
	} {
		for _, c := range [][3][]api.Tuple{
			{{nums(1), nums(2), nums(3)}, {nums(2), nums(4)}, {nums(1)}}, // rising
			{{nums(3), nums(1), nums(3)}, {nums(4), nums(2), nums(3), nums(2)}, {nums(1), nums(1)}},
			{{nums(1)}, {nums(2)}, nil},
		} {
			given := [3][]api.Tuple{}
			for i := range c { // room behind the list and behind each tuple
				given[i] = append(deep(c[i]), nums(77))[:len(c[i])]
				for k := range given[i] {
					given[i][k] = append(given[i][k], num(88))[:1]
				}
			}
			got := f(given[0], given[1], given[2])
			want := [][]api.Tuple{deep(got[0]), deep(got[1])}
			scribble(t, name, got[0])
			if !sameLists(got[1], want[1]) {
				t.Errorf("%s: its answers share memory", name)
			}
			scribble(t, name, got[1])
			for i := range c {
				whole := given[i][:len(c[i])+1]
				if !sameLists(given[i], c[i]) || !same(whole[len(c[i])], nums(77)) {
					t.Errorf("%s made %v of %v", name, whole, c[i])
				}
				for _, x := range given[i] {
					if x[:2][1] != num(88) {
						t.Errorf("%s wrote behind a tuple: %v", name, x[:2])
					}
				}
			}
		}
	}
}

// scribble writes over tuple after tuple, and behind it: those that come later stay as they are.
func scribble(t *testing.T, name string, l []api.Tuple) {
	was := deep(l)
	for i := range l {
		if !same(l[i], was[i]) {
			t.Errorf("%s: the tuples of an answer share memory", name)
		}
		clear(l[i])
		clear(append(l[i], num(99)))
	}
	clear(l[:cap(l)])
}

func TestSetsOfRelations(t *testing.T) { // P2.9
	r := rand.New(rand.NewSource(7))
	for range 500 {
		arity := r.Intn(4)
		draw := func() []api.Tuple {
			var l []api.Tuple
			for range r.Intn(20) {
				l = append(l, some(r, arity))
			}
			return tuple.Sorted(l...)
		}
		old, now := draw(), draw()
		plus, minus := tuple.Diff(old, now)
		for _, l := range [][]api.Tuple{old, now, tuple.Union(old, now), tuple.Minus(old, now), tuple.Both(old, now), plus, minus, tuple.Apply(old, now, draw())} {
			if e := tuple.CheckRel(l); e != api.OK {
				t.Fatalf("%v, %v: %v is no relation: %d", old, now, l, e)
			}
		}
		if l := tuple.Apply(old, plus, minus); !sameLists(l, now) {
			t.Fatalf("Apply(%v, %v, %v) = %v, not %v", old, plus, minus, l, now)
		}
		if l := tuple.Both(plus, minus); len(l) != 0 {
			t.Fatalf("%v came and went", l)
		}
	}
}
