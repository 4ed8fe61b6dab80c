package pack

import (
	"pedigree/api"
	"pedigree/tuple"
)

const (
	signBit = 1 << 63 // inverted, it puts the negative ints ahead of the others
	escape  = 0       // in a symbol of a key: the next byte tells what it is
	isZero  = 255     // behind escape: a byte 0 of the symbol
	isEnd   = 1       // behind escape: the symbol's end, ahead of whatever else may stand there
)

// Key is a tuple's bytes in its order.
func Key(t api.Tuple) ([]byte, api.Errno) {
	if e := tuple.Check(t); e != api.OK {
		return nil, e
	}
	var b []byte
	for _, v := range t {
		if v.Kind == api.VInt {
			b = append(b, intKey(v.N)...)
		} else {
			b = append(b, symKey(v.S)...)
		}
	}
	return b, api.OK
}

// FromKey is the tuple of such bytes.
func FromKey(b []byte) (api.Tuple, api.Errno) {
	t, _, e := taken(b, (*reader).keys)
	return t, e
}

func intKey(n int64) []byte {
	b := []byte{intTag}
	for shift := 56; shift >= 0; shift -= 8 {
		b = append(b, byte((uint64(n)^signBit)>>shift))
	}
	return b
}

func symKey(s string) []byte {
	b := []byte{symTag}
	for i := range len(s) {
		b = append(b, s[i])
		if s[i] == escape {
			b = append(b, isZero)
		}
	}
	return append(b, escape, isEnd)
}

// keys reads the keys of values, to the last byte.
func (r *reader) keys() api.Tuple {
	var t api.Tuple
	for len(r.rest) > 0 {
		if len(t) == api.MaxArity {
			panic(api.ErrPack)
		}
		t = append(t, r.key())
	}
	return t
}

func (r *reader) key() api.Value {
	switch r.one() {
	case intTag:
		return api.Value{Kind: api.VInt, N: r.intKey()}
	case symTag:
		return api.Value{Kind: api.VSym, S: r.symKey()}
	}
	panic(api.ErrPack)
}

func (r *reader) intKey() int64 {
	var x uint64
	for _, c := range r.take(8) {
		x = x<<8 | uint64(c)
	}
	return int64(x ^ signBit)
}

func (r *reader) symKey() string {
	var s []byte
	for {
		c := r.one()
		if c == escape {
			switch r.one() {
			case isEnd:
				return string(s)
			case isZero:
			default:
				panic(api.ErrPack)
			}
		}
		if len(s) == api.MaxSym {
			panic(api.ErrPack)
		}
		s = append(s, c)
	}
}
