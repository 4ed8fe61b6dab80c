package pack_test

import (
	"bytes"
	"math"
	"math/rand"
	"regexp"
	"strings"
	"testing"

	"pedigree/api"
	"pedigree/pack"
)

// behinds are bytes that may stand behind those that are taken: also some that would go on with them.
func behinds() []string {
	return []string{"", "\x00", "\x01", "\x80", "\xff", "\x80\x01", "abc", strings.Repeat("\xff", 300)}
}

// cut are the beginnings of bytes, all but the whole.
func cut(b []byte) [][]byte {
	var l [][]byte
	for i := range b {
		l = append(l, b[:i])
	}
	return l
}

// wrongNums are bytes that begin with no number.
func wrongNums() [][]byte {
	l := [][]byte{
		nil, {}, row("80"), row("ff"), row("80 80 80"),
		row("80 00"), row("81 00"), row("ff 00"), row("ff ff 00"), row("80 80 00"), row("ff 80 00"), row("80 00 01"), row("ff ff ff ff 00 00"), // more bytes than they need
		row("80 80 80 80 80 80 80 80 80 00"), row("ff ff ff ff ff ff ff ff ff 00"),
		row("80 80 80 80 80 80 80 80 80 02"), row("ff ff ff ff ff ff ff ff ff 02"), row("ff ff ff ff ff ff ff ff ff 03"), row("ff ff ff ff ff ff ff ff ff 7f"), // too great
		row("80 80 80 80 80 80 80 80 80 80 01"), row("ff ff ff ff ff ff ff ff ff 81 01"), row("80 80 80 80 80 80 80 80 80 81 00"), row("80 80 80 80 80 80 80 80 80 80 00"),
		bytes.Repeat([]byte{0x80}, 70), bytes.Repeat([]byte{0xff}, 1<<20), append(bytes.Repeat([]byte{0x80}, 1<<20), 1),
	}
	for _, s := range nums() {
		l = append(l, cut(row(s))...)
	}
	return l
}

func TestTakeNumAndInt(t *testing.T) { // P3.2
	for _, more := range behinds() {
		for x, s := range nums() {
			b := append(row(s), more...)
			if y, n, e := pack.TakeNum(b); y != x || n != len(row(s)) || e != api.OK {
				t.Errorf("TakeNum(% x) = %d, %d, %d", b, y, n, e)
			}
		}
		for x, s := range ints() {
			b := append(row(s), more...)
			if y, n, e := pack.TakeInt(b); y != x || n != len(row(s)) || e != api.OK {
				t.Errorf("TakeInt(% x) = %d, %d, %d", b, y, n, e)
			}
		}
	}
	for _, b := range wrongNums() {
		if x, n, e := pack.TakeNum(b); x != 0 || n != 0 || e != api.ErrPack {
			t.Errorf("TakeNum(% .20x) = %d, %d, %d", b, x, n, e)
		}
		if x, n, e := pack.TakeInt(b); x != 0 || n != 0 || e != api.ErrPack {
			t.Errorf("TakeInt(% .20x) = %d, %d, %d", b, x, n, e)
		}
	}
}

// TestShortNums goes through all rows of up to three bytes, and many of ten: one begins with a number just if the pattern says so.
func TestShortNums(t *testing.T) { // P3.2, P3.4
	is := regexp.MustCompile(`\A([\x00-\x7f]|[\x{80}-\x{ff}]{1,8}[\x01-\x7f]|[\x{80}-\x{ff}]{9}\x01)`)
	try := func(b []byte) {
		want := len([]rune(is.FindString(runes(b))))
		x, n, e := pack.TakeNum(b)
		i, m, f := pack.TakeInt(b)
		if n != want || m != want || (e == api.OK) != (want > 0) || f != e {
			t.Fatalf("of % x TakeNum takes %d, %d; TakeInt takes %d, %d; not %d", b, n, e, m, f, want)
		}
		if want > 0 && (!bytes.Equal(pack.Num(x), b[:n]) || !bytes.Equal(pack.Int(i), b[:n])) {
			t.Fatalf("TakeNum(% x) = %d, TakeInt = %d: other bytes", b, x, i)
		}
	}
	for i := range 1 << 16 {
		try([]byte{byte(i)})
		try([]byte{byte(i), byte(i >> 8)})
	}
	for _, c := range []byte{0, 1, 0x7f, 0x80, 0x81, 0xff} {
		for i := range 1 << 12 {
			try([]byte{byte(i) << 4, byte(i>>4) << 4, c})
			try([]byte{0x80 | byte(i), c, byte(i >> 5)})
		}
	}
	r := rand.New(rand.NewSource(5))
	for range 20000 {
		b := make([]byte, 1+r.Intn(11))
		for i := range b {
			b[i] = byte(r.Intn(256)) | 0x80
		}
		b[len(b)-1] = []byte{0, 1, 2, 3, 0x7f, 0x80, 0x81, byte(r.Intn(256))}[r.Intn(8)]
		try(b)
	}
}

// runes are bytes as runes of the same numbers, so that a pattern can tell of them.
func runes(b []byte) string {
	l := make([]rune, len(b))
	for i, c := range b {
		l[i] = rune(c)
	}
	return string(l)
}

func TestTakeText(t *testing.T) { // P3.2
	const far = 1 << 20
	for _, size := range []int{0, 1, 2, 127, 128, 300, far - 1, far} {
		text := bytes.Repeat([]byte{0}, size)
		if size > 1 {
			text[0], text[size-1] = 0xff, 'z'
		}
		for _, most := range []int{size, size + 1, far, far + 1, math.MaxInt32, math.MaxInt} {
			for _, more := range behinds()[:4] {
				b := append(pack.Text(text), more...)
				if x, n, e := pack.TakeText(b, most); !bytes.Equal(x, text) || n != len(b)-len(more) || e != api.OK {
					t.Errorf("TakeText of %d bytes, at most %d: %d bytes, %d, %d", size, most, len(x), n, e)
				}
			}
		}
		for _, most := range []int{size - 1, size - 2, size/2 - 1, -1, -2, math.MinInt32, math.MinInt} {
			noText(t, pack.Text(text), most)
		}
	}
	for _, size := range []int{far + 1, far + 2, 3 * far} {
		for _, most := range []int{far, size, size + 1, math.MaxInt, -1, 0} {
			noText(t, pack.Text(make([]byte, size)), most)
		}
	}
	if x, n, e := pack.TakeText(row("02 68 69 21"), 2); string(x) != "hi" || n != 3 || e != api.OK {
		t.Errorf("TakeText = %q, %d, %d", x, n, e)
	}
}

func TestTakeNoText(t *testing.T) { // P3.2
	for _, most := range []int{-1, 0, 1, 5, 300, 1 << 20, math.MaxInt} {
		for _, b := range wrongNums() {
			noText(t, b, most)
		}
		for _, s := range []string{
			"01", "02", "02 61", "03 61 62", "7f", "81 00 61", "80 00", // too few bytes, or a number in more than it needs
			"ff ff ff ff 07 61", "80 80 80 80 08 61", "80 80 80 80 10 61", "ff ff ff ff ff ff ff ff 7f 61", "80 80 80 80 80 80 80 80 80 01 61", "ff ff ff ff ff ff ff ff ff 01 61",
		} {
			noText(t, row(s), most)
		}
	}
	for _, b := range cut(pack.Text(bytes.Repeat([]byte{0}, 200))) {
		noText(t, b, 200)
	}
	whole := pack.Text(make([]byte, 1<<20))
	noText(t, whole[:len(whole)-1], 1<<20)
}

func noText(t *testing.T, b []byte, most int) {
	if x, n, e := pack.TakeText(b, most); len(x) != 0 || n != 0 || e != api.ErrPack {
		t.Errorf("TakeText(% .20x of %d bytes, %d) = %d bytes, %d, %d", b, len(b), most, len(x), n, e)
	}
}

func TestTakeTuple(t *testing.T) { // P3.2
	for _, c := range tuples() {
		for _, more := range behinds() {
			b := append(row(c.bytes), more...)
			if x, n, e := pack.TakeTuple(b); !same(x, c.t) || n != len(row(c.bytes)) || e != api.OK {
				t.Errorf("TakeTuple(% x) = %v, %d, %d, not %v", b, x, n, e, c.t)
			}
			for count, s := range ints() {
				b := append(append(row(c.bytes), row(s)...), more...)
				x, n, e := pack.TakeCounted(b)
				if !same(x.T, c.t) || x.N != count || n != len(b)-len(more) || e != api.OK {
					t.Errorf("TakeCounted(% x) = %v, %d, %d, not %v, %d", b, x, n, e, c.t, count)
				}
			}
		}
		for _, b := range cut(row(c.bytes)) {
			noTuple(t, b)
		}
	}
}

func TestTakeNoTuple(t *testing.T) { // P3.2
	long := strings.Repeat(" 61", api.MaxSym+1)
	for _, s := range []string{
		"", "01", "02", "08", "09", "0a", "10", "7f", "80", "80 01", "81 00", "ff", "ff 01", // no count, or no values
		"01 01", "01 02", "01 02 01", "01 02 02 61", "02 01 0a", "02 01 0a 02", "02 01 0a 02 01", "02 02 00", // too few bytes
		"01 00", "01 00 00", "01 00 00 00", "01 03", "01 03 00", "01 03 00 00", "01 81 00", "01 82 00", "01 ff 00", "01 41 00", "02 01 0a 00 00", "02 01 0a 03 01 61", // no kind
		"01 01 80", "01 01 80 00", "01 01 81 00", "01 01 ff ff ff ff ff ff ff ff ff 02", "01 01 80 80 80 80 80 80 80 80 80 80 01", // no int
		"01 02 80", "01 02 80 00", "01 02 81 00 61", "01 02 ff ff ff ff ff ff ff ff ff 01 61", "01 02 81 80 00 61", // no byte string
		"01 02 81 02" + long, "01 02 82 02" + long + " 61", "02 01 0a 02 81 02" + long, "01 02 80 80 40" + long, // a symbol that may not be
		"09" + strings.Repeat(" 01 02", 9), "0a" + strings.Repeat(" 01 02", 10), "10" + strings.Repeat(" 01 02", 16), "88 00" + strings.Repeat(" 01 02", 8), "80 02" + strings.Repeat(" 02 00", 256),
		"08" + strings.Repeat(" 01 02", 7), "08" + strings.Repeat(" 01 02", 7) + " 03 02",
	} {
		noTuple(t, row(s))
	}
	noTuple(t, bytes.Repeat([]byte{9}, 1<<20))
	for _, c := range tuples() {
		for _, b := range wrongNums() { // a tuple, but no count
			b = append(row(c.bytes), b...)
			if x, n, e := pack.TakeCounted(b); len(x.T) != 0 || x.N != 0 || n != 0 || e != api.ErrPack {
				t.Errorf("TakeCounted(% .40x) = %v, %d, %d", b, x, n, e)
			}
		}
	}
}

// noTuple tells if bytes are taken for a tuple, alone or with a count behind.
func noTuple(t *testing.T, b []byte) {
	if x, n, e := pack.TakeTuple(b); len(x) != 0 || n != 0 || e != api.ErrPack {
		t.Errorf("TakeTuple(% .40x) = %v, %d, %d", b, x, n, e)
	}
	if x, n, e := pack.TakeCounted(b); len(x.T) != 0 || x.N != 0 || n != 0 || e != api.ErrPack {
		t.Errorf("TakeCounted(% .40x) = %v, %d, %d", b, x, n, e)
	}
}

// TestShortTuples goes through all rows of some bytes: one begins with a tuple, or a counted one, just if the pattern says so.
func TestShortTuples(t *testing.T) { // P3.2, P3.4
	const num = `([\x00-\x7f]|[\x{80}-\x{ff}]{1,8}[\x01-\x7f])`
	const val = `(\x01` + num + `|\x02(\x00|\x01.|\x02.{2}|\x03.{3}|\x04.{4}))`
	const tup = `(\x00|\x01` + val + `|\x02` + val + `{2}|\x03` + val + `{3})`
	is, counted := regexp.MustCompile(`(?s)\A`+tup), regexp.MustCompile(`(?s)\A`+tup+num)
	each([]byte{0, 1, 2, 3, 0x80, 0x81}, 6, func(b []byte) {
		s := runes(b)
		want := len([]rune(is.FindString(s)))
		x, n, e := pack.TakeTuple(b)
		if n != want || (e == api.OK) != (want > 0) {
			t.Fatalf("TakeTuple(% x) = %v, %d, %d, not %d", b, x, n, e, want)
		}
		if y, f := pack.Tuple(x); want > 0 && (f != api.OK || !bytes.Equal(y, b[:n])) {
			t.Fatalf("TakeTuple(% x) = %v, whose bytes are % x, %d", b, x, y, f)
		}
		want = len([]rune(counted.FindString(s)))
		c, n, e := pack.TakeCounted(b)
		if n != want || (e == api.OK) != (want > 0) {
			t.Fatalf("TakeCounted(% x) = %v, %d, %d, not %d", b, c, n, e, want)
		}
		if y, f := pack.Counted(c); want > 0 && (f != api.OK || !bytes.Equal(y, b[:n])) {
			t.Fatalf("TakeCounted(% x) = %v, whose bytes are % x, %d", b, c, y, f)
		}
	})
}

// each goes through all rows of up to so many of these bytes.
func each(of []byte, most int, do func([]byte)) {
	var step func(b []byte)
	step = func(b []byte) {
		do(b)
		if len(b) < most {
			for _, c := range of {
				step(append(b, c))
			}
		}
	}
	step(make([]byte, 0, most))
}

// TestTakenIsNew: what is taken shares no memory with the bytes, and the bytes stay as they are.
func TestTakenIsNew(t *testing.T) { // P3.2, with the rule on memory
	b := append(pack.Text([]byte("abc")), "def"...)
	x, _, _ := pack.TakeText(b, 10)
	y, _, _ := pack.TakeText(b, 10)
	x[0] = 'z'
	x = append(x, "zzzz"...)
	if string(b) != "\x03abcdef" || string(y) != "abc" {
		t.Errorf("TakeText shares memory: %q, %q, %q", b, x, y)
	}
	clear(b)
	if string(y) != "abc" {
		t.Errorf("TakeText keeps its argument: %q", y)
	}
	in := api.Counted{T: api.Tuple{sym("abc"), num(7)}, N: 3}
	for _, take := range []func() (api.Tuple, []byte){
		func() (api.Tuple, []byte) { b, _ := pack.Tuple(in.T); x, _, _ := pack.TakeTuple(b); return x, b },
		func() (api.Tuple, []byte) { b, _ := pack.Counted(in); x, _, _ := pack.TakeCounted(b); return x.T, b },
		func() (api.Tuple, []byte) { b, _ := pack.Key(in.T); x, _ := pack.FromKey(b); return x, b },
	} {
		x, b := take()
		clear(b)
		if !same(x, in.T) {
			t.Errorf("what is taken keeps its bytes: %v", x)
		}
	}
}

// TestRoundTrip: what was encoded is decoded, whatever goes on behind it; no beginning of it is.
func TestRoundTrip(t *testing.T) { // P3.4, P3.6
	for i, x := range many(500) {
		in := api.Counted{T: x, N: int64(i-100) << (i % 50)}
		bare, _ := pack.Tuple(x)
		b, _ := pack.Counted(in)
		key, _ := pack.Key(x)
		for _, more := range behinds() {
			if y, n, e := pack.TakeTuple(append(bare, more...)); !same(x, y) || n != len(bare) || e != api.OK {
				t.Fatalf("TakeTuple(% x, %q) = %v, %d, %d, not %v", bare, more, y, n, e, x)
			}
			if y, n, e := pack.TakeCounted(append(b, more...)); !same(x, y.T) || y.N != in.N || n != len(b) || e != api.OK {
				t.Fatalf("TakeCounted(% x, %q) = %v, %d, %d, not %v", b, more, y, n, e, in)
			}
			if y, n, e := pack.TakeText(append(pack.Text(key), more...), len(key)); !bytes.Equal(y, key) || n != len(pack.Text(key)) || e != api.OK {
				t.Fatalf("TakeText(% x, %q) = % x, %d, %d", key, more, y, n, e)
			}
		}
		for _, short := range cut(bare) {
			noTuple(t, short)
		}
		for _, short := range cut(b) {
			if _, n, e := pack.TakeCounted(short); n != 0 || e != api.ErrPack {
				t.Fatalf("TakeCounted(% x) = %d, %d", short, n, e)
			}
		}
		for _, short := range cut(pack.Text(key)) {
			noText(t, short, len(key))
		}
		if y, e := pack.FromKey(key); !same(x, y) || e != api.OK {
			t.Fatalf("FromKey(% x) = %v, %d, not %v", key, y, e, x)
		}
	}
}

// TestNoneBeginsAnother: of the encodings of one kind none is the beginning of another.
func TestNoneBeginsAnother(t *testing.T) { // P3.6
	numbers, texts, plain, withCounts := map[string]int{}, map[string]int{}, map[string]int{}, map[string]int{}
	r := rand.New(rand.NewSource(6))
	for i, x := range many(700) {
		numbers[string(pack.Num(uint64(i)))], numbers[string(pack.Num(drawn(r)))] = i, i
		key, _ := pack.Key(x)
		texts[string(pack.Text(key))] = i
		b, _ := pack.Tuple(x)
		plain[string(b)] = i
		b, _ = pack.Counted(api.Counted{T: x, N: int64(drawn(r))})
		withCounts[string(b)] = i
	}
	for _, of := range []map[string]int{numbers, texts, plain, withCounts} {
		for b := range of {
			for i := range b {
				if _, there := of[b[:i]]; there {
					t.Errorf("%x goes on to %x", b[:i], b)
				}
			}
		}
	}
}
