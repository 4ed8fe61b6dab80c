package tuple_test

import (
	"math"
	"math/rand"
	"slices"
	"strings"
	"testing"

	"pedigree/api"
	"pedigree/tuple"
	"pedigree/value"
)

func num(n int64) api.Value { return api.Value{Kind: api.VInt, N: n} }

func sym(s string) api.Value { return api.Value{Kind: api.VSym, S: s} }

// nums is a tuple of ints.
func nums(l ...int64) api.Tuple {
	t := api.Tuple{}
	for _, n := range l {
		t = append(t, num(n))
	}
	return t
}

// ones is a tuple of so many ints.
func ones(n int) api.Tuple { return slices.Repeat(nums(1), n) }

// pairs are n tuples of two ints, rising.
func pairs(n int) []api.Tuple {
	var l []api.Tuple
	for i := range n {
		l = append(l, nums(int64(i/300), int64(i%300)))
	}
	return l
}

// bads are values that may not be.
func bads() []api.Value {
	return []api.Value{
		{}, {N: 5}, {Kind: -1}, {Kind: 3}, {Kind: math.MinInt, N: 1}, {Kind: math.MaxInt},
		{Kind: api.VInt, N: 1, S: "a"}, {Kind: api.VInt, S: "\x00"}, {Kind: api.VSym, N: 1}, {Kind: api.VSym, N: -1, S: "a"},
		sym(strings.Repeat("m", api.MaxSym+1)),
	}
}

// goods are tuples that may be, rising.
func goods() []api.Tuple {
	return []api.Tuple{
		{},
		nums(math.MinInt64), nums(math.MinInt64, math.MaxInt64), nums(-2), nums(-1, 5), nums(0),
		nums(1), nums(1, 1), nums(1, 1, 1), ones(7), ones(8), nums(1, 1, 1, 1, 1, 1, 1, 2), nums(1, 1, 2), nums(1, 2), nums(1, 2, 0), nums(1, 10),
		{num(1), sym("")}, {num(1), sym("a")}, {num(1), sym("a"), num(-9)}, {num(1), sym("aa")},
		nums(2), nums(2, -5), nums(9), nums(10), nums(math.MaxInt64),
		{sym("")}, {sym(""), num(0)}, {sym(""), sym("")}, {sym("\x00")}, {sym(" ")}, {sym(", ")}, {sym("1")}, {sym("a")}, {sym("a"), num(0)}, {sym("a\n\"")},
		{sym("ab")}, {sym("b")}, {sym(strings.Repeat("m", api.MaxSym))}, {sym("\xff")}, slices.Repeat(api.Tuple{sym("\xff")}, 8),
	}
}

// wrongs are tuples that may not be, rising among themselves.
func wrongs() []api.Tuple {
	return []api.Tuple{
		{{Kind: math.MinInt}}, {{}}, {{}, {}}, {{}, num(1)}, {{N: 1}},
		{num(1), {}}, {num(1), {}, num(2)}, ones(9), ones(10), append(ones(9), num(2)), {num(1), {Kind: 3}}, {{Kind: api.VInt, N: 1, S: "a"}},
		{{Kind: api.VSym, N: -1}}, {{Kind: api.VSym, N: 1}}, slices.Repeat(api.Tuple{{Kind: 3}}, 20),
	}
}

// every are all of them, those that may not be among those that may.
func every() []api.Tuple { return append(goods(), wrongs()...) }

// deep is a list with memory of its own.
func deep(l []api.Tuple) []api.Tuple {
	out := slices.Clone(l)
	for i := range out {
		out[i] = slices.Clone(out[i])
	}
	return out
}

func same(a, b api.Tuple) bool { return slices.Equal(a, b) }

func sameLists(a, b []api.Tuple) bool { return slices.EqualFunc(a, b, same) }

// order is the document's: by the first values that differ, or by how many there are.
func order(a, b api.Tuple) int {
	for i := range min(len(a), len(b)) {
		if c := value.Compare(a[i], b[i]); c != 0 {
			return c
		}
	}
	switch {
	case len(a) < len(b):
		return -1
	case len(a) > len(b):
		return 1
	}
	return 0
}

// some is a tuple of few ints or symbols: such ones are often prefixes of one another.
func some(r *rand.Rand, n int) api.Tuple {
	t := api.Tuple{}
	for range n {
		if r.Intn(4) == 0 {
			t = append(t, sym([]string{"", "a"}[r.Intn(2)]))
		} else {
			t = append(t, num(int64(r.Intn(3))))
		}
	}
	return t
}

func TestCheck(t *testing.T) { // P2.1
	for _, x := range append(goods(), nil, ones(8), api.Tuple{sym(strings.Repeat("\xff", api.MaxSym))}) {
		if e := tuple.Check(x); e != api.OK {
			t.Errorf("Check(%v) = %d", x, e)
		}
	}
	for _, x := range append(wrongs(), make(api.Tuple, 9), ones(9), ones(100000)) {
		if e := tuple.Check(x); e != api.ErrTuple {
			t.Errorf("Check of %d values, %.80v = %d", len(x), x, e)
		}
	}
	for _, bad := range bads() { // at each place
		for n := 1; n <= api.MaxArity; n++ {
			for i := range n {
				x := ones(n)
				x[i] = bad
				if e := tuple.Check(x); e != api.ErrTuple {
					t.Errorf("Check(%v) = %d", x, e)
				}
			}
		}
	}
}

func TestTyped(t *testing.T) { // P2.1
	const i, s = api.TInt, api.TSym
	for _, c := range []struct {
		x     api.Tuple
		types []api.Type
		want  bool
	}{
		{nil, nil, true},
		{api.Tuple{}, []api.Type{}, true},
		{nums(1), []api.Type{i}, true},
		{nums(1), []api.Type{s}, false},
		{api.Tuple{sym("1")}, []api.Type{s}, true},
		{api.Tuple{sym("1")}, []api.Type{i}, false},
		{api.Tuple{num(1), sym("")}, []api.Type{i, s}, true},
		{api.Tuple{num(1), sym("")}, []api.Type{s, i}, false},
		{api.Tuple{num(1), sym("")}, []api.Type{i, i}, false},
		{api.Tuple{num(1), sym("")}, []api.Type{s, s}, false},
		{nil, []api.Type{i}, false},
		{nums(1), nil, false},
		{nums(1), []api.Type{i, i}, false},
		{nums(1, 1), []api.Type{i}, false},
		{nums(1), []api.Type{0}, false},
		{nums(1), []api.Type{3}, false},
		{nums(1), []api.Type{-1}, false},
		{ones(8), slices.Repeat([]api.Type{i}, 8), true},
		{ones(8), append(slices.Repeat([]api.Type{i}, 7), s), false},
	} {
		if is := tuple.Typed(c.x, c.types); is != c.want {
			t.Errorf("Typed(%v, %v) = %v", c.x, c.types, is)
		}
	}
	for _, bad := range bads() { // what may not be has no type
		for _, k := range []api.Type{-1, 0, i, s, 3, api.Type(bad.Kind)} {
			if tuple.Typed(api.Tuple{bad}, []api.Type{k}) || tuple.Typed(api.Tuple{num(1), bad}, []api.Type{i, k}) {
				t.Errorf("Typed: %#v is of type %d", bad, k)
			}
		}
	}
}

func TestCompare(t *testing.T) { // P2.1
	for _, l := range [][]api.Tuple{goods(), wrongs()} {
		for i, a := range l {
			for j, b := range l {
				want := 0
				if i < j {
					want = -1
				} else if i > j {
					want = 1
				}
				if c := tuple.Compare(a, b); c != want {
					t.Errorf("Compare(%v, %v) = %d", a, b, c)
				}
			}
		}
	}
	if tuple.Compare(nil, api.Tuple{}) != 0 || tuple.Compare(nil, nums(1)) != -1 || tuple.Compare(nums(1), nil) != 1 {
		t.Error("Compare: nil is not the empty tuple")
	}
}

func TestWithin(t *testing.T) { // P2.6
	for _, c := range []struct {
		low, x, high api.Tuple
		want         bool
	}{
		{nums(2), nums(2, 5), nums(2), true},
		{nil, nil, nil, true},
		{nil, nums(7), nil, true},
		{nil, nums(7), nums(7), true},
		{nums(7), nums(7), nil, true},
		{nums(7), nums(7), nums(7), true},
		{nums(8), nums(7), nil, false},
		{nil, nums(7), nums(6), false},
		{nums(3), nums(2, 5), nil, false},
		{nums(2, 5), nums(2, 5), nums(2, 5), true},
		{nums(2, 6), nums(2, 5), nums(2, 9), false},
		{nums(2, 1), nums(2, 5), nums(2, 4), false},
		{nums(1, 9), nums(2, 0), nums(3, -9), true},
		{nums(1), nums(1, 9, 9), nums(1, 9), true},
		{nums(1, 9), nums(1, 9, 9), nums(1), true},
		{nums(1), nums(1, 9, 9), nums(1, 8), false},
		{nums(2, 1), nums(2), nums(2), false}, // fewer values than low: the whole tuple, which is less
		{nums(1, 9), nums(2), nums(3), true},
		{nums(2), nums(2), nums(2, 1), true}, // fewer values than high: the whole tuple, which is less
		{nums(2), nums(2), nums(2, -1), true},
		{nums(2), nums(3), nums(2, 1), false},
		{nums(1), nil, nil, false},
		{nil, nil, nums(-1), true},
		{nums(3), nums(2), nums(1), false},
		{nums(3), nums(4), nums(1), false},
		{nums(3), nums(0), nums(1), false},
		{nums(5), api.Tuple{sym("3")}, nil, true},
		{nil, api.Tuple{sym("3")}, nums(5), false},
		{nums(2), api.Tuple{num(2), {}}, nums(2), true}, // what may not be has its place too
		{nil, ones(9), ones(9), true},
		{ones(9), ones(20), ones(9), true},
		{ones(9), ones(8), nil, false},
		{api.Tuple{{}}, nums(1), api.Tuple{{Kind: 3}}, true},
	} {
		if is := tuple.Within(c.low, c.x, c.high); is != c.want {
			t.Errorf("Within(%v, %v, %v) = %v", c.low, c.x, c.high, is)
		}
	}
}

// TestWithinByPrefixes holds Within against the document's words, for all short tuples.
func TestWithinByPrefixes(t *testing.T) { // P2.6
	all := []api.Tuple{{}}
	for i := 0; len(all[i]) < 3; i++ {
		for _, v := range []api.Value{num(0), num(1), sym("")} {
			all = append(all, append(slices.Clone(all[i]), v))
		}
	}
	for _, low := range all {
		for _, x := range all {
			for _, high := range all {
				head, foot := x, x
				if len(x) > len(low) {
					foot = x[:len(low)]
				}
				if len(x) > len(high) {
					head = x[:len(high)]
				}
				want := order(foot, low) >= 0 && order(head, high) <= 0
				if is := tuple.Within(low, x, high); is != want {
					t.Fatalf("Within(%v, %v, %v) = %v", low, x, high, is)
				}
			}
		}
	}
}

func TestOrderIsTotal(t *testing.T) { // P2.7
	l := every()
	for _, a := range l {
		for _, b := range l {
			if c := tuple.Compare(a, b); c != order(a, b) || c != -tuple.Compare(b, a) || (c == 0) != same(a, b) {
				t.Fatalf("Compare(%v, %v) = %d", a, b, c)
			}
			for _, x := range l {
				if tuple.Compare(a, b) <= 0 && tuple.Compare(b, x) <= 0 && tuple.Compare(a, x) > 0 {
					t.Fatalf("%v, %v, %v are in a ring", a, b, x)
				}
			}
		}
	}
}

func TestPrefixIsNeverGreater(t *testing.T) { // P2.7
	for _, x := range every() {
		for n := range len(x) {
			if c := tuple.Compare(x[:n], x); c != -1 {
				t.Errorf("Compare(%v, %v) = %d", x[:n], x, c)
			}
		}
		if c := tuple.Compare(x, slices.Clone(x)); c != 0 {
			t.Errorf("Compare of %v and its copy = %d", x, c)
		}
	}
}

func TestRangesAreConsecutive(t *testing.T) { // P2.11
	r := rand.New(rand.NewSource(3))
	for range 3000 {
		arity := r.Intn(4)
		var l []api.Tuple
		for range r.Intn(30) {
			l = append(l, some(r, arity))
		}
		l = tuple.Sorted(l...)
		low, high := some(r, r.Intn(5)), some(r, r.Intn(5))
		pieces, inside := 0, false
		for _, x := range l {
			was := inside
			if inside = tuple.Within(low, x, high); inside && !was {
				pieces++
			}
		}
		if pieces > 1 {
			t.Fatalf("those of %v within %v and %v are in %d pieces", l, low, high, pieces)
		}
	}
}
