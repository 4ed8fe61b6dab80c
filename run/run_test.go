package run_test

import (
	"bytes"
	"cmp"
	"encoding/binary"
	"encoding/hex"
	"hash/crc32"
	"math"
	"math/rand"
	"slices"
	"strconv"
	"strings"
	"testing"

	"pedigree/api"
	"pedigree/run"
)

func num(n int64) api.Value { return api.Value{Kind: api.VInt, N: n} }

func sym(s string) api.Value { return api.Value{Kind: api.VSym, S: s} }

// entry is a tuple with a count.
func entry(n int64, t ...api.Value) api.Counted { return api.Counted{T: t, N: n} }

// numbered are entries of one int each, from 0 on, all of them with the count 1: five bytes from 64 on, and four below.
func numbered(n int) []api.Counted {
	var l []api.Counted
	for i := range n {
		l = append(l, entry(1, num(int64(i))))
	}
	return l
}

// wide is an entry of just so many bytes, at least 5 and at most 261: entries rise by their digits.
func wide(digit byte, size int) api.Counted {
	const fewest = 1 + 1 + 1 + 1 // values, kind, length, count
	n := size - fewest
	if n > 127 {
		n--
	}
	return entry(1, sym(string(digit)+strings.Repeat("m", n-1)))
}

// widest is the entry with the most bytes: its tuple, and its key, have the most.
func widest() api.Counted {
	return api.Counted{T: slices.Repeat(api.Tuple{sym(strings.Repeat("\x00", api.MaxSym))}, api.MaxArity), N: math.MinInt64}
}

// row are the bytes whose numbers, in sixteens, are written down with blanks between.
func row(s string) []byte {
	b, err := hex.DecodeString(strings.ReplaceAll(s, " ", ""))
	if err != nil {
		panic(err)
	}
	return b
}

// sealed are bytes with their checksum behind, made without package crc.
func sealed(b []byte) []byte {
	return binary.LittleEndian.AppendUint32(bytes.Clone(b), crc32.ChecksumIEEE(b))
}

// number are a number's bytes, made without package pack.
func number(x uint64) []byte { return binary.AppendUvarint(nil, x) }

// coded are an entry's bytes, made without package pack.
func coded(c api.Counted) []byte {
	b := []byte{byte(len(c.T))}
	for _, v := range c.T {
		b = append(b, byte(v.Kind))
		if v.Kind == api.VInt {
			b = binary.AppendVarint(b, v.N)
		} else {
			b = append(binary.AppendUvarint(b, uint64(len(v.S))), v.S...)
		}
	}
	return binary.AppendVarint(b, c.N)
}

// keyed is a tuple's key, made without package pack.
func keyed(t api.Tuple) []byte {
	var b []byte
	for _, v := range t {
		b = append(b, byte(v.Kind))
		if v.Kind == api.VInt {
			b = binary.BigEndian.AppendUint64(b, uint64(v.N)^1<<63)
		} else {
			b = append(b, strings.ReplaceAll(v.S, "\x00", "\x00\xff")+"\x00\x01"...)
		}
	}
	return b
}

// order is the document's of tuples, made without package tuple.
func order(a, b api.Tuple) int {
	for i := range min(len(a), len(b)) {
		if a[i] != b[i] {
			return cmp.Or(cmp.Compare(a[i].Kind, b[i].Kind), cmp.Compare(a[i].N, b[i].N), strings.Compare(a[i].S, b[i].S))
		}
	}
	return cmp.Compare(len(a), len(b))
}

// paged are the document's pages.
func paged(l []api.Counted) [][]api.Counted {
	var pages [][]api.Counted
	for _, c := range l {
		last := len(pages) - 1
		if last >= 0 && len(joined(pages[last]))+len(coded(c)) <= 256 {
			pages[last] = append(pages[last], c)
		} else {
			pages = append(pages, []api.Counted{c})
		}
	}
	return pages
}

// joined are entries' bytes.
func joined(l []api.Counted) []byte {
	var b []byte
	for _, c := range l {
		b = append(b, coded(c)...)
	}
	return b
}

// sheet are a page's bytes.
func sheet(l ...api.Counted) []byte {
	return sealed(append(number(uint64(len(l))), joined(l)...))
}

// line is what an index tells of a page.
type line struct {
	size uint64
	key  []byte
}

// listed are the bytes of an index, unsealed.
func listed(pages, entries uint64, l ...line) []byte {
	b := append(number(pages), number(entries)...)
	for _, x := range l {
		b = append(b, slices.Concat(number(x.size), number(uint64(len(x.key))), x.key)...)
	}
	return b
}

// tailed are bytes of pages, a sealed index, and a tail.
func tailed(pages, index []byte) []byte {
	return slices.Concat(pages, index, sealed(binary.LittleEndian.AppendUint32(nil, uint32(len(index)))))
}

// filed are the bytes of these pages, whatever they are, with the index that fits them, and a tail.
func filed(pages ...[]api.Counted) []byte {
	var b []byte
	var lines []line
	entries := 0
	for _, l := range pages {
		lines = append(lines, line{uint64(len(sheet(l...))), keyed(l[0].T)})
		b = append(b, sheet(l...)...)
		entries += len(l)
	}
	return tailed(b, sealed(listed(uint64(len(pages)), uint64(entries), lines...)))
}

func sameEntry(a, b api.Counted) bool { return a.N == b.N && slices.Equal(a.T, b.T) }

func same(a, b []api.Counted) bool { return slices.EqualFunc(a, b, sameEntry) }

// deep are entries in memory of their own.
func deep(l []api.Counted) []api.Counted {
	var out []api.Counted
	for _, c := range l {
		out = append(out, api.Counted{T: slices.Clone(c.T), N: c.N})
	}
	return out
}

// spoil writes into entries: none that shares their memory stays as it is.
func spoil(l []api.Counted) {
	for i := range l {
		for k := range l[i].T {
			l[i].T[k] = sym("spoilt")
		}
		_ = append(l[i].T[:0], make(api.Tuple, cap(l[i].T))...)
		l[i].N = 99
	}
	_ = append(l[:0], make([]api.Counted, cap(l))...)
}

// some is a value: such ones are often equal, or prefixes of one another.
func some(r *rand.Rand) api.Value {
	b := make([]byte, r.Intn(4))
	for i := range b {
		b[i] = []byte{0, 1, 255, 'a', byte(r.Intn(256))}[r.Intn(5)]
	}
	if r.Intn(20) == 0 {
		b = bytes.Repeat([]byte{byte(r.Intn(256))}, r.Intn(api.MaxSym+1))
	}
	return []api.Value{sym(string(b)), num(int64(r.Intn(5) - 2)), num(int64(r.Uint64() >> r.Intn(64)))}[r.Intn(3)]
}

// drawn is a run of at most so many entries.
func drawn(r *rand.Rand, most int) []api.Counted {
	var l []api.Counted
	for range r.Intn(most + 1) {
		n := int64(r.Uint64()>>r.Intn(64)) | 1
		if r.Intn(3) > 0 {
			n = []int64{1, 1, 2, -1, 63, 64, math.MaxInt64, math.MinInt64}[r.Intn(8)]
		}
		c := entry(n)
		for range r.Intn(api.MaxArity + 1) {
			c.T = append(c.T, some(r))
		}
		l = append(l, c)
	}
	slices.SortFunc(l, func(a, b api.Counted) int { return order(a.T, b.T) })
	return slices.CompactFunc(l, func(a, b api.Counted) bool { return order(a.T, b.T) == 0 })
}

// runs are some of all sorts.
func runs() [][]api.Counted {
	l := [][]api.Counted{
		nil,
		{entry(1, num(5))},
		{entry(1)},
		{entry(-1), entry(2, num(5)), entry(3, num(5), num(-5)), entry(4, num(5), sym("")), entry(5, sym("")), entry(6, sym(""), sym("")), entry(7, sym("\x00")), entry(8, sym("a"))},
		{entry(math.MinInt64, num(math.MinInt64)), entry(math.MaxInt64, num(math.MaxInt64))},
		{entry(math.MaxInt64, num(math.MinInt64)), entry(-1, num(-1)), entry(1, num(0)), entry(math.MinInt64, sym("\xff"))},
		numbered(1), numbered(2), numbered(63), numbered(64), numbered(65), numbered(100), numbered(3000),
		{wide('1', 256)}, {wide('1', 257)}, {widest()},
		{wide('1', 128), wide('2', 128)}, {wide('1', 128), wide('2', 129)},
		{wide('1', 251), wide('2', 5)}, {wide('1', 251), wide('2', 6)}, {wide('1', 5), wide('2', 251)}, {wide('1', 6), wide('2', 251)},
		{wide('1', 255), wide('2', 5)}, {wide('1', 256), wide('2', 5)}, {wide('1', 5), wide('2', 256)}, {wide('1', 260), wide('2', 5)}, {wide('1', 5), wide('2', 260)},
		{wide('1', 100), wide('2', 100), wide('3', 56)}, {wide('1', 100), wide('2', 100), wide('3', 57)}, {wide('1', 100), wide('2', 157), wide('3', 99), wide('4', 5)},
		{wide('1', 256), wide('2', 256), wide('3', 257), wide('4', 256)}, {wide('1', 5), wide('2', 260), wide('3', 260), wide('4', 5), wide('5', 5)},
		{entry(5, num(7)), widest(), entry(6, sym("a"))},
	}
	for _, n := range []int64{63, 64, -64, -65, 1 << 13, 1<<13 - 1} { // the count has a byte more, or has not
		x := wide('2', 128)
		x.N = n
		l = append(l, []api.Counted{wide('1', 128), x}, []api.Counted{wide('1', 127), x})
	}
	r := rand.New(rand.NewSource(1))
	for range 150 {
		l = append(l, drawn(r, 40))
	}
	return append(l, drawn(r, 1000), drawn(r, 4000))
}

// wrongs are entries that are no run.
func wrongs() map[string][]api.Counted {
	a, b, c := entry(1, num(1)), entry(1, num(2)), entry(1, num(3))
	l := map[string][]api.Counted{
		"a count of 0":         {entry(0, num(5))},
		"a count of 0, first":  {entry(0, num(0)), a, b},
		"a count of 0, within": {a, entry(0, num(2)), c},
		"a count of 0, last":   {a, b, entry(0, num(3))},
		"no tuple, count 0":    {entry(0)},
		"alike":                {a, a},
		"alike, other counts":  {a, entry(2, num(1))},
		"alike, opposite":      {a, entry(-1, num(1))},
		"alike, within":        {a, b, b, c},
		"alike, last":          {a, b, c, c},
		"alike, empty":         {entry(1), entry(1)},
		"falling":              {b, a},
		"falling, within":      {a, c, b},
		"falling, first":       {b, a, c},
		"falling, a prefix":    {entry(1, num(1), num(1)), a},
		"falling, the empty":   {a, entry(1)},
		"falling, negative":    {a, entry(1, num(-1))},
		"falling, kinds":       {entry(1, sym("a")), a},
		"falling, symbols":     {entry(1, sym("b")), entry(1, sym("a"))},
		"falling, far":         append(numbered(1000), entry(1, num(998))),
		"alike, far":           append(numbered(1000), entry(1, num(999))),
	}
	for i, t := range []api.Tuple{
		make(api.Tuple, 1), slices.Repeat(api.Tuple{num(1)}, 9), make(api.Tuple, 300), {num(1), {}}, {{Kind: 3}}, {{Kind: -1, N: 1}}, {{Kind: api.VInt, S: "a"}}, {{Kind: api.VSym, N: 1}},
		{{Kind: api.VSym, N: 1, S: "a"}}, {sym(strings.Repeat("m", 257))}, {num(1), sym(strings.Repeat("m", 257))}, {{Kind: math.MaxInt}}, {{Kind: 257, N: 1}},
	} {
		name := "no valid tuple " + strconv.Itoa(i)
		l[name] = []api.Counted{{T: t, N: 1}}
		l[name+", first"] = []api.Counted{{T: t, N: 1}, entry(1, sym("zzz"), sym("zzz"))}
		l[name+", last"] = []api.Counted{entry(1), {T: t, N: 1}}
		l[name+", count 0"] = []api.Counted{{T: t}}
	}
	return l
}

func TestCheck(t *testing.T) { // P7.1
	for i, l := range runs() {
		if e := run.Check(l...); e != api.OK {
			t.Errorf("run %d: Check: %d", i, e)
		}
	}
	for what, l := range wrongs() {
		if e := run.Check(l...); e != api.ErrRun {
			t.Errorf("%s: Check: %d", what, e)
		}
		if p, e := run.Pages(l...); len(p) != 0 || e != api.ErrRun {
			t.Errorf("%s: Pages: %v, %d", what, p, e)
		}
		if b, e := run.Bytes(l...); len(b) != 0 || e != api.ErrRun {
			t.Errorf("%s: Bytes: % x, %d", what, b, e)
		}
	}
	for _, n := range []int64{1, -1, 2, math.MaxInt64, math.MinInt64, 1<<62 + 1, -1<<62 - 1} {
		if e := run.Check(entry(n, num(5))); e != api.OK {
			t.Errorf("Check with the count %d: %d", n, e)
		}
	}
}

// TestCheckPairs: all small tuples, one behind the other.
func TestCheckPairs(t *testing.T) { // P7.1
	var l []api.Tuple
	values := []api.Value{num(-1), num(0), num(1), sym(""), sym("\x00"), sym("a"), sym("ab")}
	l = append(l, api.Tuple{})
	for _, v := range values {
		l = append(l, api.Tuple{v})
		for _, w := range values {
			l = append(l, api.Tuple{v, w})
		}
	}
	for _, a := range l {
		for _, b := range l {
			if e := run.Check(entry(1, a...), entry(1, b...)); (e == api.OK) != (order(a, b) < 0) || e != api.OK && e != api.ErrRun {
				t.Errorf("Check of %v, %v: %d", a, b, e)
			}
		}
	}
}

func TestPages(t *testing.T) { // P7.1
	for i, l := range runs() {
		p, e := run.Pages(l...)
		if e != api.OK || !slices.EqualFunc(p, paged(l), same) {
			t.Errorf("run %d: Pages: %v, %d, not %v", i, p, e, paged(l))
		}
	}
	for what, c := range map[string]struct {
		l    []api.Counted
		want []int
	}{
		"nothing":                   {nil, nil},
		"one":                       {numbered(1), []int{1}},
		"64 of 4 bytes":             {numbered(64), []int{64}},
		"one more":                  {numbered(65), []int{64, 1}},
		"256 bytes":                 {[]api.Counted{wide('1', 128), wide('2', 128)}, []int{2}},
		"257 bytes":                 {[]api.Counted{wide('1', 128), wide('2', 129)}, []int{1, 1}},
		"256 bytes, one more entry": {[]api.Counted{wide('1', 128), wide('2', 128), wide('3', 5)}, []int{2, 1}},
		"one of 256 bytes":          {[]api.Counted{wide('1', 256), wide('2', 5)}, []int{1, 1}},
		"one of 257 bytes":          {[]api.Counted{wide('1', 257), wide('2', 5)}, []int{1, 1}},
		"behind it":                 {[]api.Counted{wide('1', 5), wide('2', 257), wide('3', 5), wide('4', 251)}, []int{1, 1, 2}},
		"the widest":                {[]api.Counted{entry(1, num(1)), widest(), entry(1, sym("a")), entry(1, sym("b"))}, []int{1, 1, 2}},
		"a count with a byte more":  {[]api.Counted{wide('1', 128), entry(64, wide('2', 128).T...)}, []int{1, 1}},
	} {
		p, e := run.Pages(c.l...)
		var sizes []int
		for _, x := range p {
			sizes = append(sizes, len(x))
		}
		if e != api.OK || !slices.Equal(sizes, c.want) || !same(slices.Concat(p...), c.l) {
			t.Errorf("%s: %v, %d, not %v", what, sizes, e, c.want)
		}
	}
}

func TestBytes(t *testing.T) { // P7.1
	for _, c := range []struct {
		l    []api.Counted
		want string
	}{
		{nil, "00 00 ff 12 d9 41" + "06 00 00 00 c0 80 2f 04"},
		{[]api.Counted{entry(1, num(5))}, "01 01 01 0a 02 59 5a dd 56" + "01 01 09 09 01 80 00 00 00 00 00 00 05 31 a3 35 fa" + "11 00 00 00 e6 ef e1 c9"},
		{[]api.Counted{entry(-1)}, "01 00 01 b3 83 84 89" + "01 01 07 00 89 44 7b d7" + "08 00 00 00 f3 f7 f0 e4"},
		{[]api.Counted{entry(1, num(1)), entry(-64, sym("a"))}, "02 01 01 02 02 01 02 01 61 7f f3 a1 0e cc" + "01 02 0e 09 01 80 00 00 00 00 00 00 01 5b a0 fd a3" + "11 00 00 00 e6 ef e1 c9"},
	} {
		if b, e := run.Bytes(c.l...); e != api.OK || !bytes.Equal(b, row(c.want)) {
			t.Errorf("Bytes of %v: % x, %d, not %s", c.l, b, e, c.want)
		}
	}
	for i, l := range runs() {
		if b, e := run.Bytes(l...); e != api.OK || !bytes.Equal(b, filed(paged(l)...)) {
			t.Errorf("run %d: Bytes: % x, %d, not % x", i, b, e, filed(paged(l)...))
		}
	}
}

// TestBytesGreat: an index whose size has three bytes.
func TestBytesGreat(t *testing.T) { // P7.1, P7.5
	var l []api.Counted
	for i := range 4000 {
		l = append(l, entry(int64(i)+1, num(int64(i)), sym(strings.Repeat("\x00", 250))))
	}
	b, e := run.Bytes(l...)
	if e != api.OK || !bytes.Equal(b, filed(paged(l)...)) || len(b) < 1<<21 {
		t.Fatalf("Bytes: %d bytes, %d", len(b), e)
	}
	if x, e := run.Parse(b); e != api.OK || !same(x, l) {
		t.Errorf("Parse: %d entries, %d", len(x), e)
	}
}

// TestNew: what is handed in is neither changed nor kept, and no two lists of answers share memory.
func TestNew(t *testing.T) { // P7.1, with the rule on memory
	for i, l := range runs() {
		in, want := deep(l), paged(l)
		first, _ := run.Pages(in...)
		second, _ := run.Pages(in...)
		b, _ := run.Bytes(in...)
		for k := range first {
			if !same(first[k], want[k]) {
				t.Fatalf("run %d: page %d is spoilt with the one before", i, k)
			}
			spoil(first[k])
		}
		if !same(in, l) || !slices.EqualFunc(second, want, same) {
			t.Errorf("run %d: answers share memory", i)
		}
		x, _ := run.Parse(b)
		y, _ := run.Parse(b)
		spoil(in)
		if !slices.EqualFunc(second, want, same) {
			t.Errorf("run %d: Pages keeps its arguments", i)
		}
		whole := bytes.Clone(b)
		spoil(x)
		if !bytes.Equal(b, whole) || !same(y, l) {
			t.Errorf("run %d: Parse's answers share memory", i)
		}
		clear(b)
		if !same(y, l) {
			t.Errorf("run %d: Parse keeps its argument", i)
		}
	}
}

// TestNewTuples: a tuple's room behind its end is nobody's either.
func TestNewTuples(t *testing.T) { // P7.1, with the rule on memory
	room := api.Tuple{num(1), num(2), num(3)}
	l := []api.Counted{{T: room[:1], N: 1}, {T: room[:2], N: 2}}
	p, _ := run.Pages(l...)
	_ = append(p[0][0].T, num(7))
	_ = append(p[0][1].T, num(8))
	if !slices.Equal(room, api.Tuple{num(1), num(2), num(3)}) || p[0][1].T[1] != num(2) {
		t.Errorf("%v, %v", room, p)
	}
}
