package crc

import (
	"iter"
	"slices"

	"pedigree/api"
)

const (
	lengthAt  = 1                              // in a header: where the length of the body stands, behind the kind
	headBytes = lengthAt + numBytes + numBytes // how many bytes a header has
)

// Frame is the frame of a piece.
func Frame(p api.Piece) ([]byte, api.Errno) {
	if len(p.Body) > api.MaxFrame {
		return nil, api.ErrLong
	}
	head := slices.Concat([]byte{p.Kind}, encoded(uint32(len(p.Body))))
	return slices.Concat(Seal(head), Seal(p.Body)), api.OK
}

// Unframe is the piece of the frame with which bytes begin, and how many bytes the frame has.
func Unframe(b []byte) (api.Piece, int, api.Errno) {
	if len(b) < headBytes {
		return api.Piece{}, 0, api.ErrShort
	}
	head, e := Open(b[:headBytes])
	if e != api.OK {
		return api.Piece{}, 0, api.ErrFrame
	}
	length := decoded(head[lengthAt:])
	if length > api.MaxFrame {
		return api.Piece{}, 0, api.ErrFrame
	}
	n := headBytes + int(length) + numBytes
	if len(b) < n {
		return api.Piece{}, 0, api.ErrShort
	}
	body, e := Open(b[headBytes:n])
	if e != api.OK {
		return api.Piece{}, 0, e
	}
	return api.Piece{Kind: head[0], Body: body}, n, api.OK
}

// Scan are the pieces of the frames with which bytes begin, and where the first place is at which there is none.
func Scan(b []byte) ([]api.Piece, int) {
	var l []api.Piece
	at := 0
	for p, n := range frames(b) {
		l = append(l, p)
		at += n
	}
	return l, at
}

// frames yields the pieces of the frames with which bytes begin, each with how many bytes its frame has.
func frames(b []byte) iter.Seq2[api.Piece, int] {
	return func(yield func(api.Piece, int) bool) {
		for rest := b; ; {
			p, n, e := Unframe(rest)
			if e != api.OK || !yield(p, n) {
				return
			}
			rest = rest[n:]
		}
	}
}
