package crc_test

import (
	"math"
	"math/rand"
	"slices"
	"testing"

	"pedigree/api"
	"pedigree/crc"
)

// numbers are some of 32 bits.
func numbers(r *rand.Rand) []uint32 {
	l := []uint32{0, 1, 2, 0x80000000, 0x40000000, 0xEDB88320, 0x00800000, 0xFFFFFFFF, 0xFFFFFFFE, 0x7FFFFFFF, 0xCBF43926}
	for range 12 {
		l = append(l, r.Uint32())
	}
	return l
}

// join is crc.Join where it may not refuse.
func join(t *testing.T, x, y uint32, n int) uint32 {
	t.Helper()
	z, e := crc.Join(x, y, n)
	if e != api.OK {
		t.Fatalf("Join(%x, %x, %d): %d", x, y, n, e)
	}
	return z
}

func TestJoin(t *testing.T) { // P4.2, P4.7
	for _, b := range texts() {
		want := defined(b)
		step := 1 // of short ones, all divisions
		if len(b) > 300 {
			step = len(b) / 3
		}
		for n := 0; n <= len(b); n += step {
			x, y := crc.Sum(b[:n]), crc.Sum(b[n:])
			if z := join(t, x, y, len(b)-n); z != want {
				t.Errorf("Join(%x, %x, %d) = %x, not %x", x, y, len(b)-n, z, want)
			}
		}
	}
}

// TestJoinOfAnyNumbers: also where no bytes have these checksums.
func TestJoinOfAnyNumbers(t *testing.T) { // P4.2
	r := rand.New(rand.NewSource(5))
	for _, x := range numbers(r) {
		if z := join(t, x, 0, 0); z != x {
			t.Errorf("Join(%x, 0, 0) = %x", x, z)
		}
		for _, y := range numbers(r) {
			if z := join(t, x, y, 0); z != x^y {
				t.Errorf("Join(%x, %x, 0) = %x, not %x", x, y, z, x^y)
			}
			register := x
			for n := range 100 {
				if z := join(t, x, y, n); z != register^y {
					t.Fatalf("Join(%x, %x, %d) = %x, not %x", x, y, n, z, register^y)
				}
				register = through(register, 0, 8)
			}
		}
		register := x
		for n := 1; n <= 1<<20+3; n++ {
			register = through(register, 0, 8)
			if n&(n-1) == 0 || n > 1<<20 {
				if z := join(t, x, 7, n); z != register^7 {
					t.Fatalf("Join(%x, 7, %d) = %x, not %x", x, n, z, register^7)
				}
			}
		}
	}
}

// TestJoinOfMany: a number of bytes that nobody could go through one by one. Behind 2^32 - 1 bits 0 a register is what it was, so behind as many bytes too.
func TestJoinOfMany(t *testing.T) { // P4.2
	r := rand.New(rand.NewSource(6))
	const around = 1<<32 - 1
	for _, x := range numbers(r) {
		for _, n := range []int{around, 2 * around, 1000 * around, 1<<31*around - around} {
			if z := join(t, x, 5, n); z != x^5 {
				t.Errorf("Join(%x, 5, %d) = %x, not %x", x, n, z, x^5)
			}
			for _, m := range []int{1, 2, 99} {
				if z, want := join(t, x, 5, n+m), join(t, x, 5, m); z != want {
					t.Errorf("Join(%x, 5, %d) = %x, not %x", x, n+m, z, want)
				}
			}
		}
		if z, want := join(t, x, 5, math.MaxInt), join(t, x, 5, math.MaxInt%around); z != want {
			t.Errorf("Join(%x, 5, MaxInt) = %x, not %x", x, z, want)
		}
		for range 20 {
			n, m := r.Intn(math.MaxInt)>>r.Intn(60)/2, r.Intn(math.MaxInt)>>r.Intn(60)/2
			if z, want := join(t, x, 5, n+m), join(t, join(t, x, 0, n), 5, m); z != want {
				t.Errorf("Join(%x, 5, %d) = %x, not %x", x, n+m, z, want)
			}
		}
	}
}

func TestJoinOfFewerThanNone(t *testing.T) { // P4.2
	for _, n := range []int{-1, -2, -8, -1 << 20, math.MinInt32, math.MinInt + 1, math.MinInt} {
		for _, x := range []uint32{0, 1, 0xFFFFFFFF} {
			if z, e := crc.Join(x, 2, n); z != 0 || e != api.ErrArg {
				t.Errorf("Join(%x, 2, %d) = %x, %d", x, n, z, e)
			}
		}
	}
}

// TestJoinOfThree: it does not matter which two are joined first.
func TestJoinOfThree(t *testing.T) { // P4.7
	r := rand.New(rand.NewSource(7))
	for range 2000 {
		a, b, c := drawn(r, r.Intn(30)), drawn(r, r.Intn(30)), drawn(r, r.Intn(30))
		x, y, z := crc.Sum(a), crc.Sum(b), crc.Sum(c)
		left := join(t, join(t, x, y, len(b)), z, len(c))
		right := join(t, x, join(t, y, z, len(c)), len(b)+len(c))
		if want := crc.Sum(slices.Concat(a, b, c)); left != want || right != want {
			t.Fatalf("of % x, % x, % x: %x, %x, not %x", a, b, c, left, right, want)
		}
	}
}
