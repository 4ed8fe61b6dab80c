package pack_test

import (
	"bytes"
	"cmp"
	"regexp"
	"strings"
	"testing"

	"pedigree/api"
	"pedigree/pack"
	"pedigree/tuple"
)

func TestFromKey(t *testing.T) { // P3.3
	for _, c := range tuples() {
		if x, e := pack.FromKey(row(c.key)); !same(x, c.t) || e != api.OK {
			t.Errorf("FromKey(%s) = %v, %d, not %v", c.key, x, e, c.t)
		}
	}
	if x, e := pack.FromKey(nil); len(x) != 0 || e != api.OK {
		t.Errorf("FromKey(nil) = %v, %d", x, e)
	}
}

func TestFromNoKey(t *testing.T) { // P3.3
	const int1, a = "01 80 00 00 00 00 00 00 01 ", "02 61 00 01 "
	for _, s := range []string{
		"00", "03", "ff", "80", "00 01", "03 61 00 01", "00 80 00 00 00 00 00 00 01", "81 80 00 00 00 00 00 00 01", "82 61 00 01", // no kind
		"01", "01 80", "01 80 00 00 00 00 00 00", int1 + "01", int1 + "01 80 00", // an int that is cut
		"02", "02 61", "02 61 00", "02 00", "02 00 ff", "02 00 ff 00", "02 ff", "02 01", a + "02", a + "02 61", // a symbol that is cut
		"02 00 00", "02 00 02", "02 00 fe", "02 00 00 01", "02 61 00 61 00 01", "02 61 00 00 00 01", "02 61 00 02", "02 00 02 00 01", "02 00 fe 00 01", "02 00 80 00 01", "02 61 00 ff", "02 61 00 ff 01", // no escape
		int1 + "00", int1 + "ff", a + "00", a + "00 01", a + "61 00 01", a + "03", int1 + a + "01 80", "02 00 01 00 01", // a key that goes on
		strings.Repeat(int1, 9), strings.Repeat(a, 9), strings.Repeat("02 00 01 ", 9), strings.Repeat(int1, 8) + a, strings.Repeat(int1, 300), // more values than may be
		"02" + strings.Repeat(" 61", api.MaxSym+1) + " 00 01", "02" + strings.Repeat(" 00 ff", api.MaxSym+1) + " 00 01", "02" + strings.Repeat(" 61", api.MaxSym) + " 00 ff 00 01", int1 + "02" + strings.Repeat(" ff", 300) + " 00 01", // a symbol that may not be
	} {
		noKey(t, row(s))
	}
	for _, c := range tuples() {
		key := row(c.key)
		for _, more := range []string{"\x00", "\x01", "\x02", "\x03", "\xff", "\x00\x01", "\x01\x80", "\x02\x00"} {
			noKey(t, append(key, more...))
		}
		if len(c.t) == 1 {
			for _, b := range cut(key)[1:] {
				noKey(t, b)
			}
		}
	}
	for _, c := range []byte{0, 1, 2, 255} {
		noKey(t, bytes.Repeat([]byte{c}, 1<<20))
	}
	noKey(t, append(bytes.Repeat(row(int1), 1<<17), 1))
}

func noKey(t *testing.T, b []byte) {
	if x, e := pack.FromKey(b); len(x) != 0 || e != api.ErrPack {
		t.Errorf("FromKey(% .40x of %d bytes) = %v, %d", b, len(b), x, e)
	}
}

// TestShortKeys goes through all rows of some bytes: one is a key just if the pattern says so.
func TestShortKeys(t *testing.T) { // P3.3, P3.4
	is := regexp.MustCompile(`(?s)\A(\x01.{8}|\x02([^\x00]|\x00\x{ff})*\x00\x01){0,8}\z`)
	each([]byte{0, 1, 2, 255}, 9, func(b []byte) {
		x, e := pack.FromKey(b)
		if is.MatchString(runes(b)) != (e == api.OK) || e != api.OK && len(x) != 0 {
			t.Fatalf("FromKey(% x) = %v, %d", b, x, e)
		}
		if y, f := pack.Key(x); e == api.OK && (f != api.OK || !bytes.Equal(y, b)) {
			t.Fatalf("FromKey(% x) = %v, whose key is % x, %d", b, x, y, f)
		}
	})
}

// TestOrder: keys stand to one another as the tuples do.
func TestOrder(t *testing.T) { // P3.5
	l := many(400)
	for _, n := range []int64{-1 << 63, -1<<63 + 1, -1 << 32, -257, -256, -255, -2, -1, 0, 1, 2, 255, 256, 257, 1 << 32, 1<<63 - 2, 1<<63 - 1} {
		l = append(l, api.Tuple{num(n)}, api.Tuple{num(n), sym("")}, api.Tuple{sym(""), num(n)})
	}
	for _, s := range []string{"", "\x00", "\x00\x00", "\x00\x01", "\x00\xff", "\x01", "\x01\x00", "\x02", "a", "a\x00", "a\x00\x00", "a\x00\x01", "a\x00\xff", "a\x01", "a\xff", "aa", "ab", "b", "\xff", "\xff\x00", "\xff\xff"} {
		l = append(l, api.Tuple{sym(s)}, api.Tuple{sym(s), num(-5)}, api.Tuple{sym(s), num(5)}, api.Tuple{sym(s), sym("\x00")}, api.Tuple{sym(s), sym("\xff")})
	}
	keys := make([][]byte, len(l))
	for i, x := range l {
		keys[i], _ = pack.Key(x)
	}
	for i, x := range l {
		for j, y := range l {
			if c := bytes.Compare(keys[i], keys[j]); c != tuple.Compare(x, y) || c != order(x, y) {
				t.Fatalf("the keys of %v and %v, % x and % x, stand %d", x, y, keys[i], keys[j], c)
			}
		}
	}
}

// order is the document's: by the first values that differ, ints ahead of symbols, or by how many there are.
func order(a, b api.Tuple) int {
	for i := range min(len(a), len(b)) {
		if a[i] != b[i] {
			return cmp.Or(cmp.Compare(a[i].Kind, b[i].Kind), cmp.Compare(a[i].N, b[i].N), strings.Compare(a[i].S, b[i].S))
		}
	}
	return cmp.Compare(len(a), len(b))
}
