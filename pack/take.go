package pack

import (
	"bytes"

	"pedigree/api"
)

// mostText is how many bytes a byte string has at most, however many a caller would take.
const mostText = 1 << 20

// TakeNum is the number with which bytes begin, and how many bytes it has.
func TakeNum(b []byte) (uint64, int, api.Errno) {
	return taken(b, (*reader).num)
}

// TakeInt is the int with which bytes begin.
func TakeInt(b []byte) (int64, int, api.Errno) {
	return taken(b, (*reader).int)
}

// TakeText is the byte string of at most so many bytes with which bytes begin.
func TakeText(b []byte, most int) ([]byte, int, api.Errno) {
	return taken(b, func(r *reader) []byte { return bytes.Clone(r.text(most)) })
}

// TakeTuple is the tuple with which bytes begin.
func TakeTuple(b []byte) (api.Tuple, int, api.Errno) {
	return taken(b, (*reader).tuple)
}

// TakeCounted are a tuple and its count with which bytes begin.
func TakeCounted(b []byte) (api.Counted, int, api.Errno) {
	return taken(b, (*reader).counted)
}

// taken is what a reading takes off the front of bytes, and how many of them it takes.
func taken[T any](b []byte, read func(*reader) T) (x T, n int, e api.Errno) {
	defer func() {
		if recover() != nil {
			e = api.ErrPack // x and n are not set yet: nothing panics once they are
		}
	}()
	r := &reader{rest: b}
	x = read(r)
	return x, len(b) - len(r.rest), api.OK
}

// rest are the bytes that are still to be read. Where there are too few, it panics.
type rest []byte

// take reads the next n bytes. They are the caller's own: what is answered must be a copy.
func (b *rest) take(n uint64) []byte {
	if n > uint64(len(*b)) {
		panic(api.ErrPack)
	}
	next := (*b)[:n]
	*b = (*b)[n:]
	return next
}

// one reads the next byte.
func (b *rest) one() byte {
	return b.take(1)[0]
}

// reader reads one thing after the other. Where the bytes are none of what it reads, it panics, for taken to recover.
type reader struct {
	rest
}

func (r *reader) num() uint64 {
	var x uint64
	for shift := 0; shift < 64; shift += 7 {
		c := r.one()
		group := uint64(c &^ goesOn)
		tooGreat := group<<shift>>shift != group
		tooLong := c == 0 && shift > 0 // without this byte it is the same number
		if tooGreat || tooLong {
			panic(api.ErrPack)
		}
		x |= group << shift
		if c < goesOn {
			return x
		}
	}
	panic(api.ErrPack)
}

func (r *reader) int() int64 {
	x := r.num()
	half := int64(x >> 1)
	if x&1 == 1 {
		return ^half // x is -2 i - 1, for the int i
	}
	return half
}

func (r *reader) text(most int) []byte {
	n := r.num()
	if most < 0 || n > uint64(min(most, mostText)) {
		panic(api.ErrPack)
	}
	return r.take(n)
}

func (r *reader) value() api.Value {
	switch r.one() {
	case intTag:
		return api.Value{Kind: api.VInt, N: r.int()}
	case symTag:
		return api.Value{Kind: api.VSym, S: string(r.text(api.MaxSym))}
	}
	panic(api.ErrPack)
}

func (r *reader) tuple() api.Tuple {
	n := r.one()
	if n > api.MaxArity {
		panic(api.ErrPack)
	}
	t := make(api.Tuple, n)
	for i := range t {
		t[i] = r.value()
	}
	return t
}

func (r *reader) counted() api.Counted {
	t := r.tuple()
	return api.Counted{T: t, N: r.int()}
}
