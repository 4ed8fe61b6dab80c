package journal

import (
	"iter"

	"pedigree/api"
	"pedigree/crc"
)

// segment is what is valid of one.
type segment struct {
	start   api.Place // behind its header
	batches [][]byte
}

// content are the first bytes of a segment, so many, and the header with which they begin.
func (j *Journal) content(n, size int) ([]byte, head, api.Errno) {
	b, e := j.disk.Read(j.segmentName(n), 0, size)
	if e == api.ErrRange {
		return nil, head{}, api.ErrBad
	}
	if e != api.OK {
		return nil, head{}, e
	}
	h, ok := headOf(b)
	if !ok {
		return nil, head{}, api.ErrBad
	}
	return b, h, api.OK
}

// valid is how many bytes of a segment are. The next one's header tells it, and the mark for the last one.
func (j *Journal) valid(n int) (int, api.Errno) {
	if n == j.end.Segment {
		return j.end.At, api.OK
	}
	_, h, e := j.content(n+1, headBytes)
	return h.before, e
}

// segment reads what is valid of one.
func (j *Journal) segment(n int) (segment, api.Errno) {
	size, e := j.valid(n)
	if e != api.OK {
		return segment{}, e
	}
	b, h, e := j.content(n, size)
	if e != api.OK {
		return segment{}, e
	}
	s := segment{start: h.behind(n)}
	for batch, e := range batches(b[headBytes:]) {
		if e != api.OK {
			return segment{}, e
		}
		s.batches = append(s.batches, batch)
	}
	return s, api.OK
}

// batches yields those of the frames that bytes are. Where they are anything else, an error is the last that it yields.
func batches(b []byte) iter.Seq2[[]byte, api.Errno] {
	return func(yield func([]byte, api.Errno) bool) {
		for rest := b; len(rest) > 0; {
			p, n, e := crc.Unframe(rest)
			if e != api.OK || p.Kind != kindBatch {
				yield(nil, api.ErrBad)
				return
			}
			if !yield(p.Body, api.OK) {
				return
			}
			rest = rest[n:]
		}
	}
}

// after are the batches behind a place, if it is one of the segment.
func (s segment) after(p api.Place) ([][]byte, bool) {
	at := s.start
	for i, b := range s.batches {
		if at == p {
			return s.batches[i:], true
		}
		at.At += frameBytes + len(b)
		at.Batch++
	}
	return nil, at == p
}

// First is the place ahead of all batches.
func (j *Journal) First() (api.Place, api.Errno) {
	if !j.ready() {
		return api.Place{}, api.ErrNil
	}
	n := min(j.first(), j.end.Segment) // without the last segment, it is this one of which the disk has to tell
	_, h, e := j.content(n, headBytes)
	if e != api.OK {
		return api.Place{}, e
	}
	return h.behind(n), api.OK
}

// Read are the batches behind a place, in order.
func (j *Journal) Read(p api.Place) ([][]byte, api.Errno) {
	switch {
	case !j.ready():
		return nil, api.ErrNil
	case !j.holds(p.Segment):
		return nil, api.ErrPlace
	}
	s, e := j.segment(p.Segment)
	if e != api.OK {
		return nil, e
	}
	l, ok := s.after(p)
	if !ok {
		return nil, api.ErrPlace
	}
	for n := p.Segment + 1; n <= j.end.Segment; n++ {
		s, e := j.segment(n)
		if e != api.OK {
			return nil, e
		}
		l = append(l, s.batches...)
	}
	return l, api.OK
}
