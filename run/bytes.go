package run

import (
	"iter"
	"slices"

	"pedigree/api"
	"pedigree/crc"
	"pedigree/pack"
)

const (
	sizeBytes = 4                     // how many bytes the index has is told in so many
	sealBytes = 4                     // what sealed bytes have more
	tailBytes = sizeBytes + sealBytes // how many bytes a tail has
)

// page is some entries of a run, and their bytes.
type page struct {
	entries []api.Counted
	bytes   []byte
}

// pages yields the pages of a run.
func pages(l []api.Counted) iter.Seq[page] {
	return func(yield func(page) bool) {
		from := 0
		var b []byte
		for i, c := range l {
			entry, _ := pack.Counted(c) // its tuple may be, since l is a run
			if i > from && len(b)+len(entry) > api.PageBytes {
				if !yield(page{l[from:i], b}) {
					return
				}
				from, b = i, nil
			}
			b = append(b, entry...)
		}
		if from < len(l) {
			yield(page{l[from:], b})
		}
	}
}

// encoded are the bytes of a run.
func encoded(l []api.Counted) []byte {
	var content, list []byte
	n := 0
	for p := range pages(l) {
		b := p.sealed()
		content = append(content, b...)
		list = append(list, pack.Num(uint64(len(b)))...)
		list = append(list, pack.Text(p.key())...)
		n++
	}
	head := append(pack.Num(uint64(n)), pack.Num(uint64(len(l)))...)
	index := crc.Seal(append(head, list...))
	tail := crc.Seal(sizeCode(len(index)))
	return slices.Concat(content, index, tail)
}

// sealed are the bytes of a page.
func (p page) sealed() []byte {
	return crc.Seal(append(pack.Num(uint64(len(p.entries))), p.bytes...))
}

// key is that of the first tuple, which may be, since it is one of a run.
func (p page) key() []byte {
	k, _ := pack.Key(p.entries[0].T)
	return k
}

// sizeCode are the bytes of a size, least significant first.
func sizeCode(n int) []byte {
	b := make([]byte, sizeBytes)
	for i := range b {
		b[i] = byte(n >> (8 * i))
	}
	return b
}

// sizeOf is the size of such bytes.
func sizeOf(b []byte) uint64 {
	var n uint64
	for i, c := range b {
		n |= uint64(c) << (8 * i)
	}
	return n
}
