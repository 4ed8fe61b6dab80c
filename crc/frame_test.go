package crc_test

import (
	"bytes"
	"encoding/binary"
	"math/rand"
	"slices"
	"testing"

	"pedigree/api"
	"pedigree/crc"
)

// head is a frame's header, made without package crc.
func head(kind byte, length uint32) []byte {
	return sealed(binary.LittleEndian.AppendUint32([]byte{kind}, length))
}

// framed is a piece's frame, made without package crc.
func framed(p api.Piece) []byte {
	return slices.Concat(head(p.Kind, uint32(len(p.Body))), sealed(p.Body))
}

func same(a, b api.Piece) bool { return a.Kind == b.Kind && bytes.Equal(a.Body, b.Body) }

// pieces are some: their frames have the limit's length too.
func pieces() []api.Piece {
	l := []api.Piece{{}, {Kind: 7}, {Kind: 255, Body: []byte{}}, {Kind: 1, Body: []byte("abc")}, {Body: make([]byte, 4)}}
	r := rand.New(rand.NewSource(8))
	for _, n := range []int{1, 2, 3, 4, 5, 8, 9, 12, 13, 14, 100, 255, 256, 257, 65535, 65536, 65537, api.MaxFrame - 1, api.MaxFrame} {
		l = append(l, api.Piece{Kind: byte(r.Intn(256)), Body: drawn(r, n)})
	}
	return append(l, api.Piece{Kind: 3, Body: framed(api.Piece{Kind: 4, Body: []byte("inside")})})
}

func TestFrame(t *testing.T) { // P4.3
	for s, p := range map[string]api.Piece{
		"00 00 00 00 00 1d f7 22 c6 00 00 00 00":             {},
		"07 00 00 00 00 0d 2b 02 74 00 00 00 00":             {Kind: 7},
		"01 03 00 00 00 43 71 f7 e9 61 62 63 c2 41 24 35":    {Kind: 1, Body: []byte("abc")},
		"ff 04 00 00 00 c6 a7 24 83 ff ff ff ff ff ff ff ff": {Kind: 255, Body: []byte("\xff\xff\xff\xff")},
	} {
		if b, e := crc.Frame(p); !bytes.Equal(b, row(s)) || e != api.OK {
			t.Errorf("Frame(%v) = % x, %d, not %s", p, b, e, s)
		}
	}
	for _, p := range pieces() {
		b, e := crc.Frame(p)
		if !bytes.Equal(b, framed(p)) || len(b) != len(p.Body)+13 || e != api.OK {
			t.Errorf("Frame of %d, %d bytes: %d bytes, % .20x, %d", p.Kind, len(p.Body), len(b), b, e)
		}
	}
	for _, n := range []int{api.MaxFrame + 1, api.MaxFrame + 2, 3 * api.MaxFrame, 1 << 24} {
		if b, e := crc.Frame(api.Piece{Kind: 1, Body: make([]byte, n)}); b != nil || e != api.ErrLong {
			t.Errorf("Frame of %d bytes: %d bytes, %d", n, len(b), e)
		}
	}
}

func TestUnframe(t *testing.T) { // P4.3, P4.6
	for _, p := range pieces() {
		f := framed(p)
		for _, more := range []string{"", "\x00", "\xff", "abc", string(f[:5]), string(f)} {
			x, n, e := crc.Unframe(append(bytes.Clone(f), more...))
			if !same(x, p) || n != len(f) || e != api.OK {
				t.Errorf("Unframe of %d, %d bytes, %d bytes behind: %d, %d bytes, %d, %d", p.Kind, len(p.Body), len(more), x.Kind, len(x.Body), n, e)
			}
		}
	}
}

// noFrame tells if bytes are taken for a frame, or refused by another error.
func noFrame(t *testing.T, b []byte, want api.Errno) {
	t.Helper()
	if p, n, e := crc.Unframe(b); p.Kind != 0 || p.Body != nil || n != 0 || e != want {
		t.Errorf("Unframe(% .40x of %d bytes) = %d, %d bytes, %d, %d, not %d", b, len(b), p.Kind, len(p.Body), n, e, want)
	}
	if l, at := crc.Scan(b); len(l) != 0 || at != 0 {
		t.Errorf("Scan(% .40x of %d bytes) takes %d, %d bytes", b, len(b), len(l), at)
	}
}

func TestUnframeShort(t *testing.T) { // P4.3
	noFrame(t, nil, api.ErrShort)
	for _, c := range []byte{0, 1, 255} {
		for n := range 9 {
			noFrame(t, bytes.Repeat([]byte{c}, n), api.ErrShort)
		}
		noFrame(t, bytes.Repeat([]byte{c}, 9), api.ErrFrame)
	}
	for _, p := range pieces() {
		f := framed(p)
		for n := range len(f) {
			if n < 300 || n > len(f)-3 {
				noFrame(t, f[:n:n], api.ErrShort)
				noFrame(t, f[:n], api.ErrShort) // what stands behind its end is not asked
			}
		}
	}
}

func TestUnframeWrongHead(t *testing.T) { // P4.3
	good := framed(api.Piece{Kind: 1, Body: []byte("abc")})
	for i := range 9 {
		for _, x := range []byte{1, 2, 0x80, 0xff} {
			wrong := bytes.Clone(good)
			wrong[i] ^= x
			noFrame(t, wrong, api.ErrFrame)
			noFrame(t, wrong[:9], api.ErrFrame) // ahead of ErrShort
			noFrame(t, wrong[:8], api.ErrShort) // ahead of ErrFrame
			wrong[10] ^= 1
			noFrame(t, wrong, api.ErrFrame) // ahead of ErrCrc
		}
	}
	for _, n := range []int{1, 2, 1 << 20} { // the checksum is right, the length is not
		body := make([]byte, api.MaxFrame+n)
		noFrame(t, framed(api.Piece{Kind: 1, Body: body}), api.ErrFrame)
		noFrame(t, head(1, uint32(len(body))), api.ErrFrame)
	}
	for _, length := range []uint32{1 << 24, 1<<31 - 1, 1 << 31, 1<<32 - 13, 1<<32 - 1} {
		noFrame(t, head(1, length), api.ErrFrame)
		noFrame(t, append(head(1, length), sealed([]byte("abc"))...), api.ErrFrame)
	}
	noFrame(t, head(1, api.MaxFrame), api.ErrShort)
	noFrame(t, row("01 00 00 00 03"), api.ErrShort)
	noFrame(t, append(sealed(row("01 00 00 00 03")), sealed([]byte("abc"))...), api.ErrFrame) // the length's most significant byte first
}

func TestUnframeWrongBody(t *testing.T) { // P4.3
	for _, p := range pieces() {
		f := framed(p)
		if len(f) > 300 {
			continue
		}
		for i := 9; i < len(f); i++ {
			wrong := bytes.Clone(f)
			wrong[i] ^= 0x10
			noFrame(t, wrong, api.ErrCrc)
			noFrame(t, append(bytes.Clone(wrong), f...), api.ErrCrc)
			noFrame(t, wrong[:len(f)-1], api.ErrShort) // ahead of ErrCrc
		}
	}
	whole := framed(api.Piece{Body: make([]byte, api.MaxFrame)})
	whole[9]++
	noFrame(t, whole, api.ErrCrc)
	noFrame(t, append(head(1, 2), sealed([]byte("abc"))...), api.ErrCrc)
	noFrame(t, append(head(1, 4), sealed([]byte("abc"))...), api.ErrShort)
}

func TestScan(t *testing.T) { // P4.3, P4.6
	r := rand.New(rand.NewSource(9))
	small := pieces()[:14]
	for range 40 {
		var all []byte
		ends := []int{0}
		var l []api.Piece
		for range r.Intn(6) {
			p := small[r.Intn(len(small))]
			l = append(l, p)
			all = append(all, framed(p)...)
			ends = append(ends, len(all))
		}
		for n := range len(all) + 1 {
			complete, _ := slices.BinarySearch(ends, n+1)
			scanned(t, all[:n], l[:complete-1], ends[complete-1])
		}
		for _, more := range []string{"\x00", "\xff\xff\xff\xff\xff\xff\xff\xff\xff\xff\xff\xff\xff", string(head(1, api.MaxFrame+1)), string(head(1, 5)) + "abc"} {
			scanned(t, append(bytes.Clone(all), more...), l, len(all))
		}
		for i := range all { // one byte is wrong: what stands behind its frame counts no more
			wrong := bytes.Clone(all)
			wrong[i] ^= 4
			whole, _ := slices.BinarySearch(ends, i+1)
			scanned(t, wrong, l[:whole-1], ends[whole-1])
		}
	}
	scanned(t, nil, nil, 0)
	scanned(t, bytes.Repeat(framed(api.Piece{Kind: 7}), 5000), slices.Repeat([]api.Piece{{Kind: 7}}, 5000), 5000*13)
	great := api.Piece{Kind: 1, Body: bytes.Repeat([]byte{5}, api.MaxFrame)}
	scanned(t, bytes.Repeat(framed(great), 3), []api.Piece{great, great, great}, 3*(api.MaxFrame+13))
}

// scanned tells if Scan answers other pieces, or another place.
func scanned(t *testing.T, b []byte, want []api.Piece, end int) {
	t.Helper()
	if l, at := crc.Scan(b); !slices.EqualFunc(l, want, same) || at != end {
		t.Fatalf("Scan(% .60x of %d bytes): %d pieces, %d, not %d, %d", b, len(b), len(l), at, len(want), end)
	}
}

// TestFramesAreNew: what is handed in is neither changed nor kept, nor is the room behind it, and no two answers share memory.
func TestFramesAreNew(t *testing.T) { // P4.3, with the rule on memory
	room := append([]byte("abc"), bytes.Repeat([]byte{9}, 40)...)
	p := api.Piece{Kind: 1, Body: room[:3]}
	f, _ := crc.Frame(p)
	g, _ := crc.Frame(p)
	all := slices.Concat(f, f, f)
	clear(f)
	if !bytes.Equal(room, append([]byte("abc"), bytes.Repeat([]byte{9}, 40)...)) || !bytes.Equal(g, all[:16]) {
		t.Errorf("Frame shares memory: % x, % x", room, g)
	}
	clear(room)
	if !bytes.Equal(g, all[:16]) {
		t.Errorf("Frame keeps its argument: % x", g)
	}
	whole := bytes.Clone(all)
	x, _, _ := crc.Unframe(all)
	l, _ := crc.Scan(all)
	clear(x.Body)
	clear(l[0].Body)
	x.Body, l[0].Body = append(x.Body, "zzzzzzzz"...), append(l[0].Body, "zzzzzzzz"...)
	if !bytes.Equal(all, whole) || string(l[1].Body) != "abc" {
		t.Errorf("answers share memory: % x, %q", all, l[1].Body)
	}
	y, _, _ := crc.Unframe(all)
	clear(all)
	if string(y.Body) != "abc" || string(l[1].Body) != "abc" || string(l[2].Body) != "abc" {
		t.Errorf("the bytes are kept: %q, %q, %q", y.Body, l[1].Body, l[2].Body)
	}
}
