package crc_test

import (
	"bytes"
	"math/rand"
	"testing"

	"pedigree/api"
	"pedigree/crc"
)

// holds tells if an adder contains other bytes. It asks twice: asking changes nothing.
func holds(t *testing.T, a *crc.Adder, b []byte) {
	t.Helper()
	for range 2 {
		if a.Sum() != defined(b) || a.Len() != len(b) {
			t.Fatalf("an adder's sum is %x, of %d bytes; not %x, of %d", a.Sum(), a.Len(), defined(b), len(b))
		}
	}
}

func TestAdder(t *testing.T) { // P4.4
	a := crc.New()
	holds(t, a, nil)
	a.Add()
	a.Add(nil)
	a.Add([]byte{}, nil, []byte{})
	a.Add([][]byte{}...)
	holds(t, a, nil)
	a.Add([]byte("1234"), nil, []byte("5"))
	holds(t, a, []byte("12345"))
	a.Add()
	a.Add(nil)
	holds(t, a, []byte("12345"))
	a.Add([]byte("6789"))
	holds(t, a, []byte("123456789"))
	if a.Sum() != 0xCBF43926 {
		t.Errorf("%x", a.Sum())
	}
	a.Add([]byte{0}, []byte{0})
	holds(t, a, []byte("123456789\x00\x00"))
}

// TestAddersApart: adders have nothing to do with one another.
func TestAddersApart(t *testing.T) { // P4.4
	a, b := crc.New(), crc.New()
	a.Add([]byte("abc"))
	holds(t, b, nil)
	b.Add([]byte("defg"))
	holds(t, a, []byte("abc"))
	c := crc.New()
	holds(t, c, nil)
	a.Add([]byte("x"))
	holds(t, b, []byte("defg"))
	holds(t, a, []byte("abcx"))
}

// TestAdderKeepsNoPart: a part may be changed behind Add, and Add changes none.
func TestAdderKeepsNoPart(t *testing.T) { // P4.4, with the rule on memory
	a := crc.New()
	parts := [][]byte{[]byte("abc"), []byte("def")}
	a.Add(parts...)
	if len(parts) != 2 || string(parts[0]) != "abc" || string(parts[1]) != "def" {
		t.Errorf("Add changes its parts: %q", parts)
	}
	clear(parts[0])
	parts[1] = nil
	holds(t, a, []byte("abcdef"))
	a.Add([]byte("ghi"))
	holds(t, a, []byte("abcdefghi"))
}

func TestNoAdder(t *testing.T) { // P4.4
	for name, a := range map[string]*crc.Adder{"nil": nil, "new": new(crc.Adder), "zero": {}} {
		for range 3 {
			if a.Sum() != 0 || a.Len() != 0 {
				t.Errorf("%s: %x, %d", name, a.Sum(), a.Len())
			}
			a.Add()
			a.Add(nil)
			a.Add([]byte("abc"), []byte("def"))
		}
	}
	var none crc.Adder
	none.Add([]byte("abc"))
	if none.Sum() != 0 || none.Len() != 0 {
		t.Errorf("%x, %d", none.Sum(), none.Len())
	}
}

// TestDivisions: however the bytes are divided into parts, and these into calls, the checksum is the same.
func TestDivisions(t *testing.T) { // P4.7
	b := []byte("\x00abc\xff12345")
	for cuts := range 1 << len(b) {
		one, each := crc.New(), crc.New()
		var parts [][]byte
		for i, first := 0, 0; i < len(b); i++ {
			if cuts>>i&1 == 1 || i == len(b)-1 {
				parts = append(parts, b[first:i+1])
				each.Add(b[first : i+1])
				holds(t, each, b[:i+1])
				first = i + 1
			}
		}
		one.Add(parts...)
		holds(t, one, b)
		holds(t, each, b)
	}
	r := rand.New(rand.NewSource(10))
	for _, b := range texts() {
		a := crc.New()
		for rest := b; len(rest) > 0; {
			var parts [][]byte
			for range r.Intn(4) {
				n := r.Intn(min(len(rest), 1<<r.Intn(20)) + 1)
				parts = append(parts, rest[:n])
				rest = rest[n:]
			}
			a.Add(parts...)
		}
		holds(t, a, b)
	}
}

// TestMuch: the sum of many parts is that which Join tells.
func TestMuch(t *testing.T) { // P4.4, P4.7
	part := bytes.Repeat([]byte("pedigree"), 1<<17)
	a, sum := crc.New(), uint32(0)
	for i := range 24 {
		a.Add(part)
		var e api.Errno
		sum, e = crc.Join(sum, crc.Sum(part), len(part))
		if e != api.OK || a.Sum() != sum || a.Len() != (i+1)*len(part) {
			t.Fatalf("%d: %x, %d bytes, not %x, %d", i, a.Sum(), a.Len(), sum, e)
		}
	}
}
