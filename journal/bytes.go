package journal

import (
	"bytes"
	"slices"

	"pedigree/api"
	"pedigree/crc"
)

// The kinds of frames.
const (
	kindBatch = 1
	kindHead  = 2
)

const (
	frameBytes = 13 // what a frame has beside its body
	numBytes   = 8
	headBytes  = frameBytes + 2*numBytes
	markBytes  = 64
	sealBytes  = 4
	magic      = "PMRK" // how a mark begins
	numEnd     = 1 << 62
)

// encoded are the bytes of numbers, least significant first.
func encoded(numbers ...int) []byte {
	var b []byte
	for _, n := range numbers {
		for i := range numBytes {
			b = append(b, byte(n>>(8*i)))
		}
	}
	return b
}

// decoded are the numbers of such bytes, if all of them are valid.
func decoded(b []byte) ([]int, bool) {
	var numbers []int
	for part := range slices.Chunk(b, numBytes) {
		var n uint64
		for i, c := range part {
			n |= uint64(c) << (8 * i)
		}
		if n >= numEnd {
			return nil, false
		}
		numbers = append(numbers, int(n))
	}
	return numbers, true
}

// frame is the frame of a body, which is never longer than a frame's may be.
func frame(kind byte, body []byte) []byte {
	b, _ := crc.Frame(api.Piece{Kind: kind, Body: body})
	return b
}

// head is what the header of a segment tells.
type head struct {
	before  int // how many bytes of the segment before it are valid
	batches int // how many precede it
}

func (h head) encoded() []byte {
	return frame(kindHead, encoded(h.before, h.batches))
}

// behind is the place behind the header, in that segment.
func (h head) behind(segment int) api.Place {
	return api.Place{Segment: segment, At: headBytes, Batch: h.batches}
}

// headOf is the header with which bytes begin, if they do.
func headOf(b []byte) (head, bool) {
	p, n, e := crc.Unframe(b)
	if e != api.OK || n != headBytes || p.Kind != kindHead {
		return head{}, false
	}
	l, ok := decoded(p.Body)
	if !ok {
		return head{}, false
	}
	return head{l[0], l[1]}, true
}

// markOf is the mark that tells an end.
func markOf(end api.Place) []byte {
	b := append([]byte(magic), encoded(end.Segment, end.At, end.Batch)...)
	rest := make([]byte, markBytes-sealBytes-len(b))
	return crc.Seal(append(b, rest...))
}

// endOf is the end that a mark tells, if these bytes are one: an end has one mark.
func endOf(mark []byte) (api.Place, bool) {
	l, ok := decoded(mark[len(magic) : len(magic)+3*numBytes])
	if !ok {
		return api.Place{}, false
	}
	end := api.Place{Segment: l[0], At: l[1], Batch: l[2]}
	if end.Segment < 1 || end.Segment > api.MaxSegments || end.At < headBytes || !bytes.Equal(mark, markOf(end)) {
		return api.Place{}, false
	}
	return end, true
}
