package run_test

import (
	"bytes"
	"encoding/binary"
	"math"
	"math/rand"
	"slices"
	"testing"

	"pedigree/api"
	"pedigree/run"
)

// parses tells if Parse answers another run.
func parses(t *testing.T, what string, b []byte, want []api.Counted) {
	t.Helper()
	if l, e := run.Parse(b); e != api.OK || !same(l, want) {
		t.Errorf("%s: Parse: %v, %d, not %v", what, l, e, want)
	}
}

// isNone tells if Parse takes bytes for those of a run.
func isNone(t *testing.T, what string, b []byte) {
	t.Helper()
	if l, e := run.Parse(b); len(l) != 0 || e != api.ErrRot {
		t.Errorf("%s: Parse(% .60x of %d bytes): %v, %d", what, b, len(b), l, e)
	}
}

func TestParse(t *testing.T) { // P7.1, P7.5
	for _, l := range runs() {
		parses(t, "a run's bytes", filed(paged(l)...), l)
		b, e := run.Bytes(l...)
		if e != api.OK {
			t.Errorf("Bytes: %d", e)
		}
		parses(t, "Bytes", b, l)
	}
}

// TestParseCut: a run's bytes that are cut at either end, or go on, are none.
func TestParseCut(t *testing.T) { // P7.1
	for _, l := range [][]api.Counted{nil, {entry(1, num(5))}, {entry(1)}, numbered(100), {entry(5, num(7)), widest(), entry(6, sym("a"))}} {
		b := filed(paged(l)...)
		for n := range b {
			isNone(t, "cut behind", b[:n])
			isNone(t, "cut ahead", b[n+1:])
		}
		for _, x := range [][]byte{{0}, {0, 0, 0, 0}, {255}, b[:1], b[len(b)-8:], filed(), b} {
			isNone(t, "goes on", slices.Concat(b, x))
			if len(l) > 0 || len(x) == 1 {
				isNone(t, "begins early", slices.Concat(x, b))
			}
		}
		isNone(t, "a byte between", slices.Concat(b[:len(b)-8], []byte{0}, b[len(b)-8:]))
	}
}

// TestParseBytes: each byte of a run counts, to the last bit.
func TestParseBytes(t *testing.T) { // P7.1, P7.7
	for _, l := range [][]api.Counted{nil, {entry(1, num(5))}, numbered(70), {entry(5, num(7)), wide('m', 200), entry(6, sym("zz"))}} {
		b := filed(paged(l)...)
		for i := range b {
			for mask := 1; mask < 256; mask++ {
				wrong := bytes.Clone(b)
				wrong[i] ^= byte(mask)
				isNone(t, "a byte is wrong", wrong)
			}
		}
	}
}

// pageless is a file of pages and an index of these numbers, all of it sealed as it should be.
func pageless(pages []byte, number, entries uint64, lines ...line) []byte {
	return tailed(pages, sealed(listed(number, entries, lines...)))
}

// TestParsePages: pages that are none, or other ones than the document's, in files that are otherwise whole.
func TestParsePages(t *testing.T) { // P7.1
	a, b, c := entry(1, num(1)), entry(1, num(2)), entry(1, num(3))
	for what, file := range map[string][]byte{
		"two pages for one":           filed([]api.Counted{a}, []api.Counted{b}),
		"three pages for one":         filed([]api.Counted{a}, []api.Counted{b}, []api.Counted{c}),
		"the first might take more":   filed(numbered(65)[:63], numbered(65)[63:]),
		"256 bytes in two pages":      filed([]api.Counted{wide('1', 128)}, []api.Counted{wide('2', 128)}),
		"the second might take more":  filed([]api.Counted{wide('1', 250)}, []api.Counted{wide('2', 100)}, []api.Counted{wide('3', 100)}),
		"257 bytes in a page":         filed([]api.Counted{wide('1', 128), wide('2', 129)}),
		"a page of 65":                filed(numbered(65)),
		"the widest, and more":        filed([]api.Counted{widest(), entry(1, sym("a"))}),
		"the widest, and ahead":       filed([]api.Counted{a, widest()}),
		"pages that fall":             filed(numbered(64), []api.Counted{entry(1, num(0), num(0))}),
		"pages that meet":             filed(numbered(64), []api.Counted{entry(1, num(63))}),
		"pages that are alike":        filed(numbered(64), numbered(64)),
		"pages that cross":            filed(append(numbered(63), entry(1, num(1000))), []api.Counted{entry(1, num(64))}),
		"a count of 0":                filed([]api.Counted{entry(0, num(5))}),
		"a count of 0, last":          filed([]api.Counted{a, entry(0, num(5))}),
		"falling":                     filed([]api.Counted{b, a}),
		"alike":                       filed([]api.Counted{a, a}),
		"another first tuple":         pageless(sheet(a), 1, 1, line{9, keyed(b.T)}),
		"a first tuple that is less":  pageless(sheet(b), 1, 1, line{9, keyed(a.T)}),
		"a first tuple that is more":  pageless(sheet(a, b), 1, 2, line{13, keyed(b.T)}),
		"a prefix of it":              pageless(sheet(a), 1, 1, line{9, nil}),
		"too few entries in all":      pageless(sheet(a, b), 1, 1, line{13, keyed(a.T)}),
		"too many entries in all":     pageless(sheet(a, b), 1, 3, line{13, keyed(a.T)}),
		"most entries in all":         pageless(sheet(a, b), 1, math.MaxInt64, line{13, keyed(a.T)}),
		"entries, and no page":        pageless(nil, 0, 1),
		"a page of no bytes":          pageless(sheet(a), 2, 1, line{9, keyed(a.T)}, line{0, keyed(b.T)}),
		"a page of no entries":        pageless(slices.Concat(sheet(a), sheet()), 2, 1, line{9, keyed(a.T)}, line{5, keyed(b.T)}),
		"only a page of no entries":   pageless(sheet(), 1, 0, line{5, keyed(a.T)}),
		"sealed nothing":              pageless(sealed(nil), 1, 1, line{4, keyed(a.T)}),
		"an entry too few":            pageless(sealed(append(number(2), coded(a)...)), 1, 2, line{9, keyed(a.T)}),
		"an entry too many":           pageless(sealed(append(number(1), joined([]api.Counted{a, b})...)), 1, 1, line{13, keyed(a.T)}),
		"an entry cut":                pageless(sealed(append(number(1), coded(a)[:3]...)), 1, 1, line{8, keyed(a.T)}),
		"a byte behind":               pageless(sealed(append(number(1), append(coded(a), 0)...)), 1, 1, line{10, keyed(a.T)}),
		"a number of two bytes":       pageless(sealed(append([]byte{0x81, 0}, coded(a)...)), 1, 1, line{10, keyed(a.T)}),
		"a count of two bytes":        pageless(sealed(append(number(1), 1, 1, 2, 0x82, 0)), 1, 1, line{10, keyed(a.T)}),
		"no seal":                     pageless(append(number(1), coded(a)...), 1, 1, line{5, keyed(a.T)}),
		"a value of another kind":     pageless(sealed([]byte{1, 1, 3, 2, 2}), 1, 1, line{9, keyed(a.T)}),
		"nine values":                 pageless(sealed(slices.Concat([]byte{1, 9}, bytes.Repeat([]byte{1, 2}, 9), []byte{2})), 1, 1, line{25, bytes.Repeat(keyed(a.T), 9)}),
		"most entries in a page":      pageless(sealed(append(number(math.MaxUint64), coded(a)...)), 1, 1, line{18, keyed(a.T)}),
		"an index of other pages":     tailed(sheet(a, b), sealed(listed(1, 1, line{9, keyed(a.T)}))),
		"pages in another order":      pageless(slices.Concat(sheet(b), sheet(a)), 2, 2, line{9, keyed(b.T)}, line{9, keyed(a.T)}),
		"a page twice":                pageless(slices.Concat(sheet(a), sheet(a)), 2, 2, line{9, keyed(a.T)}, line{9, keyed(a.T)}),
		"bytes between the pages":     pageless(slices.Concat(sheet(numbered(65)[:64]...), []byte{0}, sheet(numbered(65)[64])), 2, 65, line{262, keyed(num0())}, line{10, keyed(api.Tuple{num(64)})}),
		"an index before the pages":   slices.Concat(sealed(listed(1, 1, line{9, keyed(a.T)})), sheet(a), sealed([]byte{17, 0, 0, 0})),
		"no pages ahead of the index": tailed(nil, sealed(listed(1, 1, line{9, keyed(a.T)}))),
	} {
		isNone(t, what, file)
	}
	parses(t, "a page", pageless(sheet(a, b), 1, 2, line{13, keyed(a.T)}), []api.Counted{a, b})
	parses(t, "two pages", filed(numbered(65)[:64], numbered(65)[64:]), numbered(65))
}

// num0 is the first tuple of numbered.
func num0() api.Tuple { return api.Tuple{num(0)} }

// TestParseSealed: what is altered and sealed anew is a run just if its bytes are those of one.
func TestParseSealed(t *testing.T) { // P7.1, P7.5
	r := rand.New(rand.NewSource(2))
	taken := 0
	for range 60000 {
		l := drawn(r, 6)
		var pages []byte
		var lines []line
		for _, p := range paged(l) {
			content := append(number(uint64(len(p))), joined(p)...)
			if r.Intn(2) == 0 {
				content[r.Intn(len(content))] ^= byte(1 << r.Intn(8))
			}
			lines = append(lines, line{uint64(len(content) + 4), keyed(p[0].T)})
			pages = append(pages, sealed(content)...)
		}
		index := listed(uint64(len(lines)), uint64(len(l)), lines...)
		if r.Intn(2) == 0 {
			index[r.Intn(len(index))] ^= byte(1 << r.Intn(8))
		}
		b := tailed(pages, sealed(index))
		x, e := run.Parse(b)
		if e == api.OK {
			taken++
		}
		if e != api.OK && (len(x) != 0 || e != api.ErrRot) || e == api.OK && !bytes.Equal(filed(paged(x)...), b) {
			t.Fatalf("Parse(% x) = %v, %d", b, x, e)
		}
		if bytes.Equal(b, filed(paged(l)...)) && e != api.OK {
			t.Fatalf("Parse(% x): %d, not %v", b, e, l)
		}
	}
	if taken < 10000 {
		t.Errorf("only %d are runs", taken)
	}
}

// TestParseAny: any bytes at all are a run's, or none.
func TestParseAny(t *testing.T) { // P7.1
	r := rand.New(rand.NewSource(3))
	for range 20000 {
		b := make([]byte, r.Intn(40))
		for i := range b {
			b[i] = []byte{0, 0, 1, 2, 5, 255, byte(r.Intn(256))}[r.Intn(7)]
		}
		isNone(t, "any bytes", b)
	}
	for _, n := range []int{1, 4, 8, 14, 100, 1 << 20, 1<<20 + 9} {
		for _, c := range []byte{0, 1, 255} {
			isNone(t, "one byte, repeated", bytes.Repeat([]byte{c}, n))
		}
	}
	for _, size := range []uint32{0, 1, 3, 4, 5, 7, 14, 15, 1 << 20, 1 << 31, math.MaxUint32, math.MaxUint32 - 7} { // none is 6, which it has
		index := sealed(listed(0, 0))
		isNone(t, "a size that is another one", append(bytes.Clone(index), sealed(binary.LittleEndian.AppendUint32(nil, size))...))
	}
}
