package disk

import (
	"cmp"
	"maps"
	"slices"

	"pedigree/api"
)

// Loose is how many changes of the directory, sectors, and sizes are not fixed.
func (d *Disk) Loose() (int, int, int) {
	if !d.made() {
		return 0, 0, 0
	}
	return len(d.changes), len(d.olds), len(d.resized())
}

// resized are the numbers of the files whose sizes are loose, rising.
func (d *Disk) resized() []int {
	numbers := []int{}
	for n, f := range d.files {
		if len(f.bytes) != f.fixed {
			numbers = append(numbers, n)
		}
	}
	slices.Sort(numbers)
	return numbers
}

// loose are the sectors that are not fixed, by their files' numbers, and within a file rising.
func (d *Disk) loose() []spot {
	return slices.SortedFunc(maps.Keys(d.olds), func(a, b spot) int {
		return cmp.Or(cmp.Compare(a.file, b.file), cmp.Compare(a.sector, b.sector))
	})
}

// Lose is the disk behind a loss of power that keeps what c tells of what is loose.
func (d *Disk) Lose(c api.Loss) (*Disk, api.Errno) {
	switch {
	case !d.made():
		return nil, api.ErrNil
	case c.Dir < 0 || c.Dir > len(d.changes):
		return nil, api.ErrRange
	}
	x := empty(d.room)
	x.next = d.next
	x.fixed = d.dirAfter(c.Dir)
	x.dir = maps.Clone(x.fixed)
	sizes := d.sizesAfter(c.Size)
	for n := range x.dir.files() {
		whole := d.files[n].bytes
		x.files[n] = &file{bytes: slices.Clone(whole[:sizes[n]]), fixed: sizes[n]}
	}
	for i, at := range d.loose() {
		if f := x.files[at.file]; f != nil && !chosen(c.Keep, i) {
			restore(cut(f.bytes, at.sector), d.olds[at])
		}
	}
	return x, api.OK
}

// restore makes of a sector's bytes what is fixed of them, and 0 where nothing is.
func restore(b, old []byte) {
	n := copy(b, old)
	clear(b[n:])
}

// sizesAfter are the sizes that the files have, by their numbers, if those are kept that keep tells.
func (d *Disk) sizesAfter(keep []bool) map[int]int {
	sizes := map[int]int{}
	for n, f := range d.files {
		sizes[n] = f.fixed
	}
	for i, n := range d.resized() {
		if chosen(keep, i) {
			sizes[n] = len(d.files[n].bytes)
		}
	}
	return sizes
}

// chosen tells if the list has true at i. Behind its end nothing is chosen.
func chosen(l []bool, i int) bool {
	return i < len(l) && l[i]
}
