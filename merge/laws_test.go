package merge_test

import (
	"math"
	"math/rand"
	"slices"
	"testing"

	"pedigree/api"
	"pedigree/merge"
)

// The consequences, on drawn rows.

// drawn is a row of numbers in order, of which those of equal tens are alike.
func drawn(r *rand.Rand, most int) []int {
	l := make([]int, r.Intn(most))
	for i := range l {
		l[i] = r.Intn(8)*10 + r.Intn(10)
	}
	slices.SortStableFunc(l, tens)
	return l
}

// drawnSet is a row in order without numbers that are alike.
func drawnSet(r *rand.Rand) []int {
	return slices.CompactFunc(drawn(r, 9), func(a, b int) bool { return a/10 == b/10 })
}

// drawnRows are some rows in order, and cursors over them, some of which are nil where there is nothing.
func drawnRows(r *rand.Rand) (rows [][]int, l []merge.Cursor[int]) {
	for range r.Intn(6) {
		row := drawn(r, 7)
		c := merge.Of(row...)
		if len(row) == 0 && r.Intn(2) == 0 {
			c = nil
		}
		rows, l = append(rows, row), append(l, c)
	}
	return rows, l
}

func TestMergeIsSortedInOrderOfCursors(t *testing.T) { // P9.6
	r := rand.New(rand.NewSource(96))
	for range 2000 {
		rows, l := drawnRows(r)
		want := slices.Concat(rows...) // a stable sort leaves those that are alike in the order of the rows
		slices.SortStableFunc(want, tens)
		if got := merge.Rest(merge.Merge(tens, l...)); !slices.Equal(got, want) {
			t.Fatalf("Merge of %v: %v, want %v", rows, got, want)
		}
	}
}

func TestMergeOfMerges(t *testing.T) { // P9.6
	r := rand.New(rand.NewSource(960))
	for range 1000 {
		a, b := drawn(r, 6), drawn(r, 6)
		c, d := drawn(r, 6), drawn(r, 6)
		want := slices.Concat(a, b, c, d)
		slices.SortStableFunc(want, tens)
		left := merge.Merge(tens, merge.Of(a...), merge.Of(b...))
		right := merge.Merge(tens, merge.Of(c...), merge.Of(d...))
		if got := merge.Rest(merge.Merge(tens, left, right)); !slices.Equal(got, want) {
			t.Fatalf("Merge of Merges of %v, %v, %v, %v: %v", a, b, c, d, got)
		}
	}
}

func TestBothAndLessAreOfSets(t *testing.T) { // P9.7
	r := rand.New(rand.NewSource(97))
	for range 3000 {
		a, b := drawnSet(r), drawnSet(r)
		var both, less []int
		for _, x := range a {
			if slices.ContainsFunc(b, func(y int) bool { return y/10 == x/10 }) {
				both = append(both, x)
			} else {
				less = append(less, x)
			}
		}
		gotBoth := merge.Rest(merge.Both(tens, merge.Of(a...), merge.Of(b...)))
		gotLess := merge.Rest(merge.Less(tens, merge.Of(a...), merge.Of(b...)))
		if !slices.Equal(gotBoth, both) || !slices.Equal(gotLess, less) {
			t.Fatalf("of %v and %v: Both %v, Less %v", a, b, gotBoth, gotLess)
		}
		if whole := merge.Rest(merge.Merge(tens, merge.Of(gotLess...), merge.Of(gotBoth...))); !slices.Equal(whole, a) {
			t.Fatalf("of %v and %v: both and less are %v", a, b, whole)
		}
	}
}

// drawnCounts is a row of counted tuples in order, none alike, some with great counts or none.
func drawnCounts(r *rand.Rand) []api.Counted {
	var l []api.Counted
	for n := range int64(8) {
		if r.Intn(2) == 0 {
			l = append(l, counted(n, []int64{1, -1, 2, -2, 0, 3, math.MaxInt64, math.MinInt64}[r.Intn(8)]))
		}
	}
	return l
}

// added are the sums of rows of counted tuples of one number below 8 each.
func added(rows [][]api.Counted) []api.Counted {
	var sum [8]int64
	for _, row := range rows {
		for _, x := range row {
			sum[x.T[0].N] += x.N
		}
	}
	var l []api.Counted
	for n, times := range sum {
		if times != 0 {
			l = append(l, counted(int64(n), times))
		}
	}
	return l
}

// over are cursors over rows.
func over(rows [][]api.Counted) []merge.Cursor[api.Counted] {
	var l []merge.Cursor[api.Counted]
	for _, row := range rows {
		l = append(l, merge.Of(row...))
	}
	return l
}

func TestSumInAnyOrder(t *testing.T) { // P9.8
	r := rand.New(rand.NewSource(98))
	for range 1500 {
		var rows [][]api.Counted
		for range r.Intn(6) {
			rows = append(rows, drawnCounts(r))
		}
		want := added(rows)
		for range 3 {
			if got := merge.Rest(merge.Sum(over(rows)...)); !sameCounted(got, want) {
				t.Fatalf("Sum of %v: %v, want %v", rows, got, want)
			}
			r.Shuffle(len(rows), func(i, j int) { rows[i], rows[j] = rows[j], rows[i] })
		}
	}
}

func TestSumOfSums(t *testing.T) { // P9.8
	r := rand.New(rand.NewSource(980))
	for range 1500 {
		var rows [][]api.Counted
		for range 5 {
			rows = append(rows, drawnCounts(r))
		}
		i := r.Intn(6)
		j := i + r.Intn(6-i)
		l := over(rows)
		got := merge.Rest(merge.Sum(merge.Sum(l[:i]...), merge.Sum(l[i:j]...), merge.Sum(l[j:]...)))
		if want := added(rows); !sameCounted(got, want) {
			t.Fatalf("Sum of Sums of %v, %v, %v: %v, want %v", rows[:i], rows[i:j], rows[j:], got, want)
		}
	}
}
