package run

import (
	"math"

	"pedigree/api"
	"pedigree/crc"
	"pedigree/pack"
	"pedigree/tuple"
)

// reader takes one thing after the other off the front of bytes.
type reader struct {
	rest []byte
}

// take is what first finds at the front.
func take[T any](r *reader, first func([]byte) (T, int, api.Errno)) T {
	x, n, e := first(r.rest)
	intact(e == api.OK)
	r.rest = r.rest[n:]
	return x
}

func (r *reader) num() uint64 {
	return take(r, pack.TakeNum)
}

func (r *reader) counted() api.Counted {
	return take(r, pack.TakeCounted)
}

// key reads the tuple whose key stands there as a byte string.
func (r *reader) key() api.Tuple {
	k := take(r, func(b []byte) ([]byte, int, api.Errno) { return pack.TakeText(b, len(b)) })
	t, e := pack.FromKey(k)
	intact(e == api.OK)
	return t
}

// index is what a run's index tells.
type index struct {
	spans   []span
	entries int
}

// span is where a page lies, and its first tuple.
type span struct {
	at    int
	size  int
	first api.Tuple
}

// indexOf is the index with which, and with a tail, a run's bytes end. What its pages hold is not asked.
func indexOf(b []byte) index {
	b, tail := cut(b, tailBytes)
	b, list := cut(b, sizeOf(tail))
	r := &reader{list}
	pages, entries := r.num(), r.num()
	intact(entries <= math.MaxInt64)
	x := index{entries: int(entries)}
	at := 0
	for range pages {
		s := r.span(at, len(b))
		if n := len(x.spans); n > 0 {
			intact(tuple.Compare(x.spans[n-1].first, s.first) < 0)
		}
		x.spans = append(x.spans, s)
		at += s.size
	}
	intact(at == len(b) && len(r.rest) == 0)
	return x
}

// cut divides bytes in those ahead of the last n, and what is sealed in these.
func cut(b []byte, n uint64) ([]byte, []byte) {
	intact(n <= uint64(len(b)))
	at := len(b) - int(n)
	return b[:at], opened(b[at:])
}

// opened are the bytes that were sealed.
func opened(b []byte) []byte {
	content, e := crc.Open(b)
	intact(e == api.OK)
	return content
}

// span reads what tells of the page at an offset. It has to lie ahead of end: a size may be greater than any int.
func (r *reader) span(at, end int) span {
	size := r.num()
	intact(size <= uint64(end-at))
	return span{at, int(size), r.key()}
}

// entries are those of the page's bytes.
func (s span) entries(b []byte) []api.Counted {
	r := &reader{opened(b)}
	var l []api.Counted
	for range r.num() {
		l = append(l, r.counted())
	}
	intact(len(r.rest) == 0 && len(l) > 0 && Check(l...) == api.OK)
	intact(tuple.Compare(l[0].T, s.first) == 0)
	return l
}
