package crc_test

import (
	"bytes"
	"encoding/binary"
	"encoding/hex"
	"hash/crc32"
	"math/rand"
	"slices"
	"strings"
	"testing"

	"pedigree/api"
	"pedigree/crc"
)

// row are the bytes whose numbers, in sixteens, are written down with blanks between.
func row(s string) []byte {
	b, err := hex.DecodeString(strings.ReplaceAll(s, " ", ""))
	if err != nil {
		panic(err)
	}
	return b
}

// through is the register behind so many bits, the lowest first: the document's words, bit by bit.
func through(register uint32, bits uint64, n int) uint32 {
	for i := range n {
		differ := register&1 != uint32(bits>>i)&1
		register >>= 1
		if differ {
			register ^= 0xEDB88320
		}
	}
	return register
}

// defined is the document's checksum.
func defined(b []byte) uint32 {
	register := uint32(1<<32 - 1)
	for _, c := range b {
		register = through(register, uint64(c), 8)
	}
	return ^register
}

// sealed are bytes with their checksum behind, made without package crc.
func sealed(b []byte) []byte {
	return binary.LittleEndian.AppendUint32(bytes.Clone(b), crc32.ChecksumIEEE(b))
}

// drawn are so many bytes: sometimes all sorts of them, sometimes few.
func drawn(r *rand.Rand, n int) []byte {
	b := make([]byte, n)
	few := r.Intn(2) == 0
	for i := range b {
		b[i] = byte(r.Intn(256))
		if few {
			b[i] = []byte{0, 0, 1, 255}[b[i]%4]
		}
	}
	return b
}

// texts are bytes of all lengths up to some dozens, and of a few beyond.
func texts() [][]byte {
	l := [][]byte{nil, {}, []byte("a"), []byte("abc"), []byte("123456789"), bytes.Repeat([]byte{0}, 100), bytes.Repeat([]byte{255}, 100)}
	r := rand.New(rand.NewSource(1))
	for n := range 70 {
		l = append(l, drawn(r, n), drawn(r, n), drawn(r, n))
	}
	for _, n := range []int{255, 256, 257, 1000, 4096, 65536, 1<<20 - 1, 1 << 20, 1<<20 + 1, 3 << 20} {
		l = append(l, drawn(r, n))
	}
	return l
}

func TestSum(t *testing.T) { // P4.1
	for s, want := range map[string]uint32{
		"": 0, "123456789": 0xCBF43926, "a": 0xE8B7BE43, "abc": 0x352441C2, "\x00": 0xD202EF8D, "\xff": 0xFF000000,
		"\x00\x00\x00\x00": 0x2144DF1C, "\xff\xff\xff\xff": 0xFFFFFFFF, "The quick brown fox jumps over the lazy dog": 0x414FA339,
	} {
		if x := crc.Sum([]byte(s)); x != want {
			t.Errorf("Sum(%q) = %x, not %x", s, x, want)
		}
	}
	if x := crc.Sum(nil); x != 0 {
		t.Errorf("Sum(nil) = %x", x)
	}
	for i := range 1 << 16 {
		b := []byte{byte(i), byte(i >> 8)}
		for n := range 3 {
			if x := crc.Sum(b[:n]); x != defined(b[:n]) {
				t.Fatalf("Sum(% x) = %x, not %x", b[:n], x, defined(b[:n]))
			}
		}
	}
	for _, b := range texts() {
		if x := crc.Sum(b); x != defined(b) || x != crc32.ChecksumIEEE(b) {
			t.Errorf("Sum(% .40x of %d bytes) = %x, not %x", b, len(b), x, defined(b))
		}
	}
}

func TestSeal(t *testing.T) { // P4.1, P4.6
	for s, want := range map[string]string{
		"": "00 00 00 00", "123456789": "31 32 33 34 35 36 37 38 39 26 39 f4 cb", "a": "61 43 be b7 e8", "\x00": "00 8d ef 02 d2", "\xff": "ff 00 00 00 ff", "\xff\xff\xff\xff": "ff ff ff ff ff ff ff ff",
	} {
		if b := crc.Seal([]byte(s)); !bytes.Equal(b, row(want)) {
			t.Errorf("Seal(%q) = % x, not %s", s, b, want)
		}
		if b, e := crc.Open(row(want)); string(b) != s || e != api.OK {
			t.Errorf("Open(%s) = %q, %d", want, b, e)
		}
	}
	for _, b := range texts() {
		s := crc.Seal(b)
		if !bytes.Equal(s, sealed(b)) {
			t.Errorf("Seal(% .40x of %d bytes) has %d bytes, % x at its end", b, len(b), len(s), s[len(s)-4:])
		}
		if x, e := crc.Open(s); !bytes.Equal(x, b) || e != api.OK {
			t.Errorf("Open of what Seal makes of % .40x: % .40x, %d", b, x, e)
		}
	}
}

func TestOpenShort(t *testing.T) { // P4.1
	for _, s := range []string{"", "00", "ff", "00 00", "ff ff", "00 00 00", "ff ff ff", "01 02 03"} {
		if b, e := crc.Open(row(s)); b != nil || e != api.ErrShort {
			t.Errorf("Open(%s) = % x, %d", s, b, e)
		}
	}
	if b, e := crc.Open(nil); b != nil || e != api.ErrShort {
		t.Errorf("Open(nil) = % x, %d", b, e)
	}
}

func TestOpenWrong(t *testing.T) { // P4.1
	noSeal(t, row("00 00 00 01"))
	noSeal(t, row("ff ff ff ff"))
	noSeal(t, row("cb f4 39 26"))
	noSeal(t, row("31 32 33 34 35 36 37 38 39 cb f4 39 26")) // the most significant first
	noSeal(t, row("00 00 00 00 00"))
	noSeal(t, row("d9 c6 0b 34")) // the bits not inverted
	for _, b := range texts() {
		s := sealed(b)
		if len(s) > 300 {
			continue
		}
		for i := range s {
			for _, x := range []byte{1, 2, 9, 0x80, 0xff} {
				wrong := bytes.Clone(s)
				wrong[i] ^= x
				noSeal(t, wrong)
			}
		}
		noSeal(t, append([]byte("zero"), s...))
		noSeal(t, append(bytes.Clone(s), 1))
		noSeal(t, s[:len(s)-1])
	}
}

// noSeal tells if bytes are taken for sealed ones. That of fewer than four bytes is another error.
func noSeal(t *testing.T, s []byte) {
	t.Helper()
	want := api.ErrCrc
	if len(s) < 4 {
		want = api.ErrShort
	}
	if b, e := crc.Open(s); b != nil || e != want {
		t.Errorf("Open(% .40x) = % .40x, %d", s, b, e)
	}
}

// bursts calls do with copies of bytes in which some bits are inverted, the first and the last of them span-1 bits apart: each copy is as it was again behind do.
func bursts(r *rand.Rand, b []byte, span int, do func(wrong []byte, first int)) {
	for first := range 8*len(b) - span + 1 {
		wrong := bytes.Clone(b)
		for i := range span {
			if i == 0 || i == span-1 || r.Intn(2) == 0 {
				wrong[(first+i)/8] ^= 1 << ((first + i) % 8)
			}
		}
		do(wrong, first)
	}
}

func TestBurstsInSealed(t *testing.T) { // P4.5
	r := rand.New(rand.NewSource(2))
	for n := range 24 {
		for _, b := range [][]byte{make([]byte, n), drawn(r, n)} {
			for span := 1; span <= 32; span++ {
				bursts(r, crc.Seal(b), span, func(wrong []byte, first int) {
					if x, e := crc.Open(wrong); x != nil || e != api.ErrCrc {
						t.Fatalf("Open(% x), with %d bits from %d on inverted: % x, %d", wrong, span, first, x, e)
					}
				})
			}
		}
	}
}

func TestBurstsInFrames(t *testing.T) { // P4.5
	r := rand.New(rand.NewSource(3))
	for _, n := range []int{0, 1, 2, 3, 4, 5, 8, 13, 24} {
		p := api.Piece{Kind: byte(r.Intn(256)), Body: drawn(r, n)}
		f, _ := crc.Frame(p)
		for _, behind := range []int{0, 1, 40} {
			more := drawn(r, behind)
			for span := 1; span <= 32; span++ {
				bursts(r, f, span, func(wrong []byte, first int) {
					want := api.ErrFrame
					if first >= 8*9 {
						want = api.ErrCrc
					}
					x, m, e := crc.Unframe(append(wrong, more...))
					if x.Kind != 0 || x.Body != nil || m != 0 || e != want {
						t.Fatalf("Unframe(% x), with %d bits from %d on inverted: %v, %d, %d", wrong, span, first, x, m, e)
					}
					if l, at := crc.Scan(slices.Concat(f, wrong, f)); len(l) != 1 || at != len(f) {
						t.Fatalf("Scan takes %d pieces, %d bytes, but % x is no frame", len(l), at, wrong)
					}
				})
			}
		}
	}
}

// TestBurstsFarIn: also where the bytes are many.
func TestBurstsFarIn(t *testing.T) { // P4.5
	r := rand.New(rand.NewSource(4))
	b := drawn(r, api.MaxFrame)
	f, _ := crc.Frame(api.Piece{Body: b})
	for span := 1; span <= 32; span++ {
		at := 9 + r.Intn(len(b)-4)
		bursts(r, f[at:at+5], span, func(wrong []byte, first int) {
			if first > 0 { // one of each length
				return
			}
			hurt := slices.Concat(f[:at], wrong, f[at+5:])
			if _, n, e := crc.Unframe(hurt); n != 0 || e != api.ErrCrc {
				t.Errorf("Unframe with %d bits of byte %d on inverted: %d, %d", span, at, n, e)
			}
			if x, e := crc.Open(hurt[9:]); x != nil || e != api.ErrCrc {
				t.Errorf("Open with %d bits of byte %d on inverted: %d bytes, %d", span, at-9, len(x), e)
			}
		})
	}
}

// TestSealIsNew: what is handed in is neither changed nor kept, nor is the room behind it, and every answer is new memory.
func TestSealIsNew(t *testing.T) { // P4.1, with the rule on memory
	room := append([]byte("abc"), bytes.Repeat([]byte{9}, 20)...)
	crc.Sum(room[:3])
	s := crc.Seal(room[:3])
	s2 := crc.Seal(room[:3])
	x, _ := crc.Open(s)
	y, _ := crc.Open(s)
	if !bytes.Equal(room, append([]byte("abc"), bytes.Repeat([]byte{9}, 20)...)) {
		t.Errorf("Seal changes its argument, or the room behind it: % x", room)
	}
	clear(x)
	x = append(x, 8, 8, 8, 8)
	if !bytes.Equal(s, sealed([]byte("abc"))) || string(y) != "abc" {
		t.Errorf("what Open answers shares memory: % x, %q", s, y)
	}
	clear(s)
	if string(y) != "abc" || !bytes.Equal(s2, sealed([]byte("abc"))) || string(room[:3]) != "abc" {
		t.Errorf("answers share memory: %q, % x, % x", y, s2, room)
	}
	clear(room)
	if !bytes.Equal(s2, sealed([]byte("abc"))) {
		t.Errorf("Seal keeps its argument: % x", s2)
	}
}
