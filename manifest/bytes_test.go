package manifest_test

import (
	"bytes"
	"encoding/binary"
	"encoding/hex"
	"math"
	"math/rand"
	"slices"
	"strings"
	"testing"

	"pedigree/api"
	"pedigree/manifest"
)

// row are the bytes that a text tells, two digits each.
func row(t *testing.T, text string) []byte {
	t.Helper()
	b, err := hex.DecodeString(strings.ReplaceAll(text, " ", ""))
	if err != nil {
		t.Fatal(err)
	}
	return b
}

// written tells if Bytes answers others.
func written(t *testing.T, what string, m api.Manifest, want []byte) {
	t.Helper()
	if b, e := manifest.Bytes(m); !bytes.Equal(b, want) || e != api.OK {
		t.Errorf("%s: Bytes: % .60x of %d bytes, %d, want % .60x of %d bytes", what, b, len(b), e, want, len(want))
	}
}

// parses tells if Parse answers another manifest.
func parses(t *testing.T, what string, b []byte, want api.Manifest) {
	t.Helper()
	if m, e := manifest.Parse(b); e != api.OK || !alike(m, want) {
		t.Errorf("%s: Parse: %v, %d, want %v", what, m, e, want)
	}
}

// rots tells if Parse takes bytes for those of a manifest.
func rots(t *testing.T, what string, b []byte) {
	t.Helper()
	if m, e := manifest.Parse(b); !zero(m) || e != api.ErrRot {
		t.Errorf("%s: Parse(% .60x of %d bytes): %v, %d", what, b, len(b), m, e)
	}
}

// TestBytesExamples: the document's, and another one byte by byte.
func TestBytesExamples(t *testing.T) { // P11.2
	written(t, "nothing", api.Manifest{}, sealed(make([]byte, 7)))
	if b, _ := manifest.Bytes(api.Manifest{}); len(b) != 11 {
		t.Errorf("nothing has %d bytes", len(b))
	}
	want := row(t, "0c 62 61 73 65 20 65 28 69 6e 74 29 2e  02 ac02 05 8101 c801  03  01 65 02 00 8001  01 66 00  01 67 01 07")
	written(t, "small", small(), sealed(want))
	parses(t, "small", sealed(want), small())
}

func TestBytes(t *testing.T) { // P11.2, P11.7
	for what, m := range valids() {
		before := deep(m)
		written(t, what, m, sealed(content(m)))
		if !alike(m, before) {
			t.Errorf("%s: changed to %v", what, m)
		}
	}
	if n := len(sealed(content(greatest()))); n > api.MaxFile {
		t.Errorf("the greatest has %d bytes", n)
	}
}

func TestParse(t *testing.T) { // P11.2, P11.7
	for what, m := range valids() {
		b, e := manifest.Bytes(m)
		ok(t, e)
		in := bytes.Clone(b)
		parses(t, what, in, m)
		if !bytes.Equal(in, b) {
			t.Errorf("%s: Parse changed the bytes", what)
		}
		x, e := manifest.Parse(in)
		clear(in)
		if e != api.OK || !alike(x, m) || !manifest.Same(x, m) || manifest.Check(x) != api.OK {
			t.Errorf("%s: %v, %d, want %v", what, x, e, m)
		}
		written(t, what, x, b)
	}
}

// TestParseOwn: no two lists of what is parsed share memory.
func TestParseOwn(t *testing.T) { // P11.2
	want := small()
	m, e := manifest.Parse(sealed(content(want)))
	ok(t, e)
	m.Rels[0].Runs = append(m.Rels[0].Runs, "x")
	_ = append(m.Rels[1].Runs, "y")
	m.Rels[0].Runs = m.Rels[0].Runs[:2]
	if !alike(m, want) {
		t.Errorf("%v", m)
	}
}

// TestParseCut: bytes that are cut at either end, or go on, sealed or not.
func TestParseCut(t *testing.T) { // P11.2
	for _, what := range []string{"nothing", "small", "any bytes", "no runs"} {
		whole := content(valids()[what])
		b := sealed(whole)
		for n := range b {
			rots(t, what+", cut", b[:n])
			rots(t, what+", begins late", b[n+1:])
		}
		for n := range whole {
			rots(t, what+", cut and sealed", sealed(whole[:n]))
			rots(t, what+", cut, with its seal", slices.Concat(whole[:n], b[len(whole):]))
		}
		for _, more := range [][]byte{{0}, {1}, {0, 0}, {255}, b, whole, b[:4], b[len(b)-4:]} {
			rots(t, what+", goes on", slices.Concat(b, more))
			rots(t, what+", goes on, sealed", sealed(slices.Concat(whole, more)))
			rots(t, what+", sealed twice", sealed(slices.Concat(b, more)))
			rots(t, what+", begins early", slices.Concat(more, b))
		}
		rots(t, what+", sealed twice", sealed(b))
	}
	rots(t, "no bytes", nil)
	rots(t, "a seal", make([]byte, 4))
	rots(t, "a long one", make([]byte, 100000))
}

// TestParseBits: each bit counts.
func TestParseBits(t *testing.T) { // P11.2
	for _, what := range []string{"nothing", "small", "another", "any bytes"} {
		b := sealed(content(valids()[what]))
		for i := range 8 * len(b) {
			wrong := bytes.Clone(b)
			wrong[i/8] ^= 1 << (i % 8)
			rots(t, what+", a bit", wrong)
		}
	}
	b := sealed(content(greatest()))
	for i := 0; i < len(b); i += 997 {
		wrong := bytes.Clone(b)
		wrong[i] ^= 0x10
		rots(t, "greatest, a bit", wrong)
	}
}

// part is a number that stands in the bytes of small, and which numbers may stand in its place.
type part struct {
	at, n int // where it stands, and what it is
	valid func(n uint64) bool
}

// parts are the numbers in the bytes of small, but for the length of its program and of its names.
func parts() map[string]part {
	below := func(most uint64) func(uint64) bool { return func(n uint64) bool { return n <= most } }
	just := func(l ...uint64) func(uint64) bool { return func(n uint64) bool { return slices.Contains(l, n) } }
	run := func(others ...uint64) func(uint64) bool {
		return func(n uint64) bool { return n < 200 && !slices.Contains(others, n) }
	}
	return map[string]part{
		"Segment":        {13, 2, below(1<<31 - 1)},
		"At":             {14, 300, below(1 << 20)},
		"Batches":        {16, 5, below(1 << 53)},
		"Events":         {17, 129, below(1 << 53)},
		"Next":           {19, 200, func(n uint64) bool { return n > 128 && n < 1<<31 }},
		"relations":      {21, 3, just(3)},
		"runs of e":      {24, 2, just(2)},
		"the first run":  {25, 0, run(128, 7)},
		"the second run": {26, 128, run(0, 7)},
		"runs of f":      {30, 0, just(0)},
		"runs of g":      {33, 1, just(1)},
		"the last run":   {34, 7, run(0, 128)},
	}
}

// TestParseNumbers: other numbers in the place of each, sealed: just those that may be there are taken.
func TestParseNumbers(t *testing.T) { // P11.2
	whole := content(small())
	for what, p := range parts() {
		size := len(numbers(nil, p.n))
		if n, k := binary.Uvarint(whole[p.at:]); int(n) != p.n || k != size {
			t.Fatalf("%s: at %d stands %d", what, p.at, n)
		}
		with := func(b []byte) []byte { return sealed(slices.Concat(whole[:p.at], b, whole[p.at+size:])) }
		for _, n := range []uint64{0, 1, 2, 3, 4, 6, 7, 8, 64, 65, 127, 128, 129, 198, 199, 200, 201, 1 << 20, 1<<20 + 1, 1<<31 - 2, 1<<31 - 1, 1 << 31, 1<<32 - 1, 1 << 32, 1<<32 + 2, 1 << 53, 1<<53 + 1, 1<<62 + 1, math.MaxInt64, 1 << 63, 1<<63 + 2, math.MaxUint64 - 1, math.MaxUint64} {
			b := with(binary.AppendUvarint(nil, n))
			m, e := manifest.Parse(b)
			want := api.OK
			if !p.valid(n) {
				want = api.ErrRot
			}
			if e != want || want != api.OK && !zero(m) {
				t.Errorf("%s is %d: %v, %d, want %d", what, n, m, e, want)
			}
			if want == api.OK {
				written(t, what, m, b)
			}
		}
		plain := numbers(nil, p.n)
		last := len(plain) - 1
		for _, zeros := range [][]byte{{0x00}, {0x80, 0x00}, bytes.Repeat([]byte{0x80}, 9), bytes.Repeat([]byte{0x80}, 20)} {
			longer := slices.Concat(plain[:last], []byte{plain[last] | 0x80}, zeros)
			rots(t, what+", longer", with(longer))
		}
		rots(t, what+", no end", with(append(plain[:last:last], plain[last]|0x80)))
		rots(t, what+", 65 bits", with(slices.Concat(bytes.Repeat([]byte{0x80}, 9), []byte{2})))
		rots(t, what+", left out", with(nil))
		rots(t, what+", twice", with(slices.Concat(plain, plain)))
	}
}

// TestParseTexts: programs and names that may not be, or are told otherwise, sealed.
func TestParseTexts(t *testing.T) { // P11.2
	none := make([]byte, 6)
	for n, valid := range map[int]bool{0: true, 1: true, 65535: true, 65536: true, 65537: false, 1 << 20: false, 1<<20 + 1: false} {
		program := strings.Repeat("x", n)
		b := sealed(append(text(nil, program), none...))
		if valid {
			parses(t, "a program", b, api.Manifest{Program: program})
			continue
		}
		rots(t, "a program", b)
	}
	for n := range 70 {
		name := strings.Repeat("n", n)
		b := sealed(append(text([]byte{0, 0, 0, 0, 0, 0, 1}, name), 0))
		if n >= 1 && n <= 64 {
			parses(t, "a name", b, api.Manifest{Rels: []api.ManRel{{Name: name}}})
			continue
		}
		rots(t, "a name", b)
	}
	for what, b := range map[string][]byte{
		"a program's length, longer": {0x80, 0, 0, 0, 0, 0, 0, 0},
		"a program that ends":        {5, 0, 0, 0, 0},
		"the longest program":        {0xff, 0xff, 0xff, 0xff, 0xff, 0xff, 0xff, 0xff, 0xff, 1, 0, 0, 0, 0, 0, 0},
		"a name's length, longer":    {0, 0, 0, 0, 0, 0, 1, 0x81, 0, 'n', 0},
		"a name that ends":           {0, 0, 0, 0, 0, 0, 1, 2, 'n'},
		"the longest name":           {0, 0, 0, 0, 0, 0, 1, 0xff, 0xff, 0xff, 0xff, 0xff, 0xff, 0xff, 0xff, 0xff, 1, 'n', 0},
		"names that fall":            {0, 0, 0, 0, 0, 0, 2, 1, 'o', 0, 1, 'n', 0},
		"names that are equal":       {0, 0, 0, 0, 0, 0, 2, 1, 'n', 0, 1, 'n', 0},
		"a run that is to come":      {0, 0, 0, 0, 0, 0, 1, 1, 'n', 1, 0},
		"a run twice":                {0, 0, 0, 0, 0, 9, 1, 1, 'n', 2, 3, 3},
		"a run of two":               {0, 0, 0, 0, 0, 9, 2, 1, 'n', 1, 3, 1, 'o', 1, 3},
	} {
		rots(t, what, sealed(b))
	}
	parses(t, "names that rise", sealed([]byte{0, 0, 0, 0, 0, 9, 2, 1, 'n', 1, 3, 1, 'o', 1, 2}), api.Manifest{Rels: []api.ManRel{rel("n", 3), rel("o", 2)}, Next: 9})
}

// TestParseMany: relations and runs at their limits, and beyond them, sealed.
func TestParseMany(t *testing.T) { // P11.2
	for n, valid := range map[int]bool{127: true, 128: true, 129: false, 1000: false} {
		m := api.Manifest{}
		for i := range n {
			m.Rels = append(m.Rels, rel(string(binary.BigEndian.AppendUint16(nil, uint16(i)))))
		}
		if b := sealed(content(m)); valid {
			parses(t, "relations", b, m)
		} else {
			rots(t, "relations", b)
		}
	}
	for n, valid := range map[int]bool{63: true, 64: true, 65: false, 1000: false} {
		m := api.Manifest{Rels: []api.ManRel{rel("a"), rel("b", upTo(n)...)}, Next: 5000}
		if b := sealed(content(m)); valid {
			parses(t, "runs", b, m)
		} else {
			rots(t, "runs", b)
		}
	}
}

// drawn is a manifest that may be.
func drawn(r *rand.Rand) api.Manifest {
	m := api.Manifest{
		Program: strings.Repeat("e", r.Intn(200)),
		Segment: r.Intn(1 << (1 + r.Intn(31))),
		At:      r.Intn(1 << (1 + r.Intn(20))),
		Batches: r.Intn(1 << (1 + r.Intn(53))),
		Events:  r.Intn(1 << (1 + r.Intn(53))),
		Next:    r.Intn(1 << (1 + r.Intn(8))),
	}
	runs := r.Perm(m.Next)
	for _, name := range many(256) {
		if r.Intn(60) > 0 {
			continue
		}
		k := r.Intn(min(len(runs), 64) + 1)
		m.Rels = append(m.Rels, rel(name, runs[:k]...))
		runs = runs[k:]
	}
	return m
}

// TestRoundTrip: what is drawn comes back, and what is altered and sealed anew is a manifest just if its bytes are those of one.
func TestRoundTrip(t *testing.T) { // P11.2, P11.7
	r := rand.New(rand.NewSource(11))
	taken := 0
	for range 20000 {
		m := drawn(r)
		whole := content(m)
		written(t, "drawn", m, sealed(whole))
		parses(t, "drawn", sealed(whole), m)
		for range 1 + r.Intn(2) {
			whole[r.Intn(len(whole))] ^= 1 << r.Intn(8)
		}
		b := sealed(whole)
		x, e := manifest.Parse(b)
		if e != api.OK {
			rots(t, "altered", b)
			continue
		}
		taken++
		is(t, "Check", manifest.Check(x), api.OK)
		written(t, "altered", x, b)
		if !bytes.Equal(content(x), whole) {
			t.Errorf("altered: %v has % x, not % x", x, content(x), whole)
		}
	}
	if taken < 1000 || taken > 19000 {
		t.Errorf("%d were taken", taken)
	}
}

// TestParseAny: any bytes at all, sealed or not.
func TestParseAny(t *testing.T) { // P11.2
	r := rand.New(rand.NewSource(12))
	for range 20000 {
		b := make([]byte, r.Intn(30))
		for i := range b {
			b[i] = byte(r.Intn(1 << (1 + r.Intn(8))))
		}
		rots(t, "any", b)
		if m, e := manifest.Parse(sealed(b)); e == api.OK {
			written(t, "any, sealed", m, sealed(b))
		} else {
			rots(t, "any, sealed", sealed(b))
		}
	}
}
