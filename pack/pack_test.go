package pack_test

import (
	"bytes"
	"encoding/binary"
	"math"
	"math/rand"
	"slices"
	"strings"
	"testing"

	"pedigree/api"
	"pedigree/pack"
)

func num(n int64) api.Value { return api.Value{Kind: api.VInt, N: n} }

func sym(s string) api.Value { return api.Value{Kind: api.VSym, S: s} }

// ones is a tuple of so many ints.
func ones(n int) api.Tuple { return slices.Repeat(api.Tuple{num(1)}, n) }

func same(a, b api.Tuple) bool { return slices.Equal(a, b) }

// row are the bytes whose numbers, in sixteens, are written down with blanks between.
func row(s string) []byte {
	const digits = "0123456789abcdef"
	b := []byte{}
	for _, two := range strings.Fields(s) {
		b = append(b, byte(strings.IndexByte(digits, two[0])<<4+strings.IndexByte(digits, two[1])))
	}
	return b
}

// nums are numbers with their bytes.
func nums() map[uint64]string {
	return map[uint64]string{
		0: "00", 1: "01", 5: "05", 126: "7e", 127: "7f",
		128: "80 01", 129: "81 01", 255: "ff 01", 256: "80 02", 300: "ac 02", 1<<14 - 1: "ff 7f",
		1 << 14: "80 80 01", 1 << 20: "80 80 40", 1<<21 - 1: "ff ff 7f", 1 << 21: "80 80 80 01",
		1<<63 - 1:      "ff ff ff ff ff ff ff ff 7f",
		1 << 63:        "80 80 80 80 80 80 80 80 80 01",
		1<<63 + 1:      "81 80 80 80 80 80 80 80 80 01",
		math.MaxUint64: "ff ff ff ff ff ff ff ff ff 01",
	}
}

// ints are ints with their bytes.
func ints() map[int64]string {
	return map[int64]string{
		0: "00", -1: "01", 1: "02", -2: "03", 2: "04", 5: "0a", 63: "7e", -64: "7f",
		64: "80 01", -65: "81 01", 127: "fe 01", 128: "80 02", -128: "ff 01", 150: "ac 02", 1<<13 - 1: "fe 7f", -1 << 13: "ff 7f",
		1 << 62:       "80 80 80 80 80 80 80 80 80 01",
		-1 << 62:      "ff ff ff ff ff ff ff ff 7f",
		math.MaxInt64: "fe ff ff ff ff ff ff ff ff 01",
		math.MinInt64: "ff ff ff ff ff ff ff ff ff 01",
	}
}

// coded is a tuple with its bytes, and those of its key.
type coded struct {
	t          api.Tuple
	bytes, key string
}

// tuples are some with their bytes.
func tuples() []coded {
	const int1Key = "01 80 00 00 00 00 00 00 01 "
	const long = api.MaxSym
	return []coded{
		{api.Tuple{}, "00", ""},
		{api.Tuple{num(0)}, "01 01 00", "01 80 00 00 00 00 00 00 00"},
		{api.Tuple{num(-1)}, "01 01 01", "01 7f ff ff ff ff ff ff ff"},
		{api.Tuple{num(math.MaxInt64)}, "01 01 fe ff ff ff ff ff ff ff ff 01", "01 ff ff ff ff ff ff ff ff"},
		{api.Tuple{num(math.MinInt64)}, "01 01 ff ff ff ff ff ff ff ff ff 01", "01 00 00 00 00 00 00 00 00"},
		{api.Tuple{num(0x0123456789abcdef)}, "01 01 de b7 de 9a f1 d9 a2 a3 02", "01 81 23 45 67 89 ab cd ef"},
		{api.Tuple{sym("")}, "01 02 00", "02 00 01"},
		{api.Tuple{sym("a")}, "01 02 01 61", "02 61 00 01"},
		{api.Tuple{sym("\x00")}, "01 02 01 00", "02 00 ff 00 01"},
		{api.Tuple{sym("\x01")}, "01 02 01 01", "02 01 00 01"},
		{api.Tuple{sym("\xff")}, "01 02 01 ff", "02 ff 00 01"},
		{api.Tuple{sym("\x00\x00\xff\x00\x01")}, "01 02 05 00 00 ff 00 01", "02 00 ff 00 ff ff 00 ff 01 00 01"},
		{api.Tuple{num(5), sym("a")}, "02 01 0a 02 01 61", "01 80 00 00 00 00 00 00 05 02 61 00 01"},
		{api.Tuple{sym(""), sym(""), num(-3)}, "03 02 00 02 00 01 05", "02 00 01 02 00 01 01 7f ff ff ff ff ff ff fd"},
		{ones(7), "07 " + strings.Repeat("01 02 ", 7), strings.Repeat(int1Key, 7)},
		{ones(8), "08 " + strings.Repeat("01 02 ", 8), strings.Repeat(int1Key, 8)},
		{api.Tuple{sym(strings.Repeat("m", 127))}, "01 02 7f" + strings.Repeat(" 6d", 127), "02" + strings.Repeat(" 6d", 127) + " 00 01"},
		{api.Tuple{sym(strings.Repeat("m", 128))}, "01 02 80 01" + strings.Repeat(" 6d", 128), "02" + strings.Repeat(" 6d", 128) + " 00 01"},
		{api.Tuple{sym(strings.Repeat("\x00", long))}, "01 02 80 02" + strings.Repeat(" 00", long), "02" + strings.Repeat(" 00 ff", long) + " 00 01"},
		{api.Tuple{sym(strings.Repeat("\xff", long))}, "01 02 80 02" + strings.Repeat(" ff", long), "02" + strings.Repeat(" ff", long) + " 00 01"},
	}
}

// wrongs are tuples that may not be.
func wrongs() []api.Tuple {
	l := []api.Tuple{make(api.Tuple, 9), ones(9), ones(10), ones(256), ones(264), slices.Repeat(api.Tuple{sym("")}, 9)}
	for _, v := range []api.Value{
		{}, {N: 5}, {S: "a"}, {Kind: -1}, {Kind: 3}, {Kind: math.MinInt, N: 1}, {Kind: math.MaxInt}, {Kind: 257, N: 1}, {Kind: 258, S: "a"},
		{Kind: api.VInt, N: 1, S: "a"}, {Kind: api.VInt, S: "\x00"}, {Kind: api.VSym, N: 1}, {Kind: api.VSym, N: -1, S: "a"},
		sym(strings.Repeat("m", api.MaxSym+1)), sym(strings.Repeat("\x00", 1000)),
	} {
		l = append(l, api.Tuple{v}, api.Tuple{v, num(1)}, api.Tuple{num(1), sym("a"), v}, append(ones(7), v))
	}
	return l
}

// drawn is a number of any length.
func drawn(r *rand.Rand) uint64 { return r.Uint64() >> r.Intn(64) }

// some is a value: such ones are often equal, or prefixes of one another.
func some(r *rand.Rand) api.Value {
	b := make([]byte, r.Intn(4))
	for i := range b {
		b[i] = []byte{0, 0, 1, 2, 255, 'a', byte(r.Intn(256))}[r.Intn(7)]
	}
	return []api.Value{sym(string(b)), num(int64(r.Intn(3) - 1)), num(int64(drawn(r)))}[r.Intn(3)]
}

// many are tuples of all sorts, some of them prefixes of others, or other ones only at their ends.
func many(n int) []api.Tuple {
	var l []api.Tuple
	for _, c := range tuples() {
		l = append(l, c.t)
	}
	r := rand.New(rand.NewSource(3))
	for range n {
		t := api.Tuple{}
		for range r.Intn(api.MaxArity) {
			t = append(t, some(r))
		}
		l = append(l, t, append(slices.Clone(t), some(r)), append(slices.Clone(t), some(r)))
	}
	return l
}

func TestNum(t *testing.T) { // P3.1
	for x, s := range nums() {
		if b := pack.Num(x); !bytes.Equal(b, row(s)) {
			t.Errorf("Num(%d) = % x, not %s", x, b, s)
		}
	}
	r := rand.New(rand.NewSource(1))
	for range 10000 {
		x := drawn(r)
		if b := pack.Num(x); !bytes.Equal(b, binary.AppendUvarint(nil, x)) {
			t.Errorf("Num(%d) = % x", x, b)
		}
	}
}

func TestInt(t *testing.T) { // P3.1
	for x, s := range ints() {
		if b := pack.Int(x); !bytes.Equal(b, row(s)) {
			t.Errorf("Int(%d) = % x, not %s", x, b, s)
		}
	}
	for x := int64(0); x < 40000; x++ { // just as the document says it
		if b := pack.Int(x); !bytes.Equal(b, pack.Num(uint64(2*x))) {
			t.Errorf("Int(%d) = % x", x, b)
		}
		if b := pack.Int(-x - 1); !bytes.Equal(b, pack.Num(uint64(-2*(-x-1)-1))) {
			t.Errorf("Int(%d) = % x", -x-1, b)
		}
	}
	r := rand.New(rand.NewSource(2))
	for range 10000 {
		x := int64(drawn(r))
		if b := pack.Int(x); !bytes.Equal(b, binary.AppendVarint(nil, x)) {
			t.Errorf("Int(%d) = % x", x, b)
		}
	}
}

func TestText(t *testing.T) { // P3.1
	for _, c := range []struct{ text, bytes string }{
		{"", "00"}, {"a", "01 61"}, {"hi", "02 68 69"}, {"\x00", "01 00"}, {"\xff", "01 ff"}, {"\x00\x00\xff\x80", "04 00 00 ff 80"},
		{strings.Repeat("a", 127), "7f" + strings.Repeat(" 61", 127)},
		{strings.Repeat("a", 128), "80 01" + strings.Repeat(" 61", 128)},
		{strings.Repeat("\x00", 300), "ac 02" + strings.Repeat(" 00", 300)},
	} {
		if b := pack.Text([]byte(c.text)); !bytes.Equal(b, row(c.bytes)) {
			t.Errorf("Text(%q) = % x, not %s", c.text, b, c.bytes)
		}
	}
	if b := pack.Text(nil); !bytes.Equal(b, row("00")) {
		t.Errorf("Text(nil) = % x", b)
	}
	for n, head := range map[int]string{1 << 14: "80 80 01", 1 << 20: "80 80 40", 1<<20 + 1: "81 80 40", 3 << 20: "80 80 c0 01"} {
		text := bytes.Repeat([]byte{7}, n)
		if b := pack.Text(text); !bytes.Equal(b, append(row(head), text...)) {
			t.Errorf("Text of %d bytes has %d bytes, the first are % x", n, len(b), b[:5])
		}
	}
}

func TestTupleAndKey(t *testing.T) { // P3.1
	for _, c := range tuples() {
		if b, e := pack.Tuple(c.t); !bytes.Equal(b, row(c.bytes)) || e != api.OK {
			t.Errorf("Tuple(%v) = % x, %d, not %s", c.t, b, e, c.bytes)
		}
		if b, e := pack.Key(c.t); !bytes.Equal(b, row(c.key)) || e != api.OK {
			t.Errorf("Key(%v) = % x, %d, not %s", c.t, b, e, c.key)
		}
	}
	if b, e := pack.Tuple(nil); !bytes.Equal(b, []byte{0}) || e != api.OK {
		t.Errorf("Tuple(nil) = % x, %d", b, e)
	}
	if b, e := pack.Key(nil); len(b) != 0 || e != api.OK {
		t.Errorf("Key(nil) = % x, %d", b, e)
	}
	for _, x := range wrongs() {
		if b, e := pack.Tuple(x); b != nil || e != api.ErrTuple {
			t.Errorf("Tuple(%.80v) = % x, %d", x, b, e)
		}
		if b, e := pack.Key(x); b != nil || e != api.ErrTuple {
			t.Errorf("Key(%.80v) = % x, %d", x, b, e)
		}
	}
}

func TestCounted(t *testing.T) { // P3.1
	for _, c := range tuples() {
		for n, s := range ints() {
			if b, e := pack.Counted(api.Counted{T: c.t, N: n}); !bytes.Equal(b, append(row(c.bytes), row(s)...)) || e != api.OK {
				t.Errorf("Counted(%v, %d) = % x, %d", c.t, n, b, e)
			}
		}
	}
	if b, e := pack.Counted(api.Counted{}); !bytes.Equal(b, []byte{0, 0}) || e != api.OK {
		t.Errorf("Counted of nothing = % x, %d", b, e)
	}
	for _, x := range wrongs() {
		for _, n := range []int64{0, 1, math.MinInt64} {
			if b, e := pack.Counted(api.Counted{T: x, N: n}); b != nil || e != api.ErrTuple {
				t.Errorf("Counted(%.80v, %d) = % x, %d", x, n, b, e)
			}
		}
	}
}

// TestArgumentsStay: what is handed in is neither changed nor kept, nor is the room behind it, and every answer is new memory.
func TestArgumentsStay(t *testing.T) { // P3.1, with the rule on memory
	behind := append([]byte("abc"), bytes.Repeat([]byte{9}, 20)...)
	b := pack.Text(behind[:3])
	b[1] = 'z'
	if !bytes.Equal(behind, append([]byte("abc"), bytes.Repeat([]byte{9}, 20)...)) {
		t.Errorf("Text shares memory with its argument: % x", behind)
	}
	behind[0] = 'y'
	if string(b) != "\x03zbc" {
		t.Errorf("Text keeps its argument: %q", b)
	}
	x := append(ones(3), num(7))
	for _, f := range []func(api.Tuple) ([]byte, api.Errno){pack.Tuple, pack.Key, counted} {
		first, _ := f(x[:3])
		copied := bytes.Clone(first)
		second, _ := f(x[:3])
		clear(second)
		if !bytes.Equal(first, copied) || !same(x, append(ones(3), num(7))) {
			t.Errorf("answers share memory, or the tuple is changed: % x, % x, %v", first, second, x)
		}
	}
}

// counted is the form of pack.Counted that takes a tuple alone.
func counted(t api.Tuple) ([]byte, api.Errno) { return pack.Counted(api.Counted{T: t, N: 300}) }
