package disk

import (
	"slices"

	"pedigree/api"
)

// file is what a file has now. It never shrinks: the fixed size is not above the present one.
type file struct {
	bytes   []byte
	fixed   int   // the size at the last Sync
	written []int // its loose sectors
}

// spot is a sector of a file.
type spot struct {
	file, sector int
}

// sectors is how many sectors so many bytes begin.
func sectors(size int) int {
	return (size + api.Sector - 1) / api.Sector
}

// cut is what b has of a sector. Its capacity ends with it, so that nothing that is done to it runs into the next sector.
func cut(b []byte, i int) []byte {
	from := min(i*api.Sector, len(b))
	to := min(from+api.Sector, len(b))
	return b[from:to:to]
}

// find is the file of a name, and its number.
func (d *Disk) find(name string) (int, *file, bool) {
	n, there := d.dir[name]
	return n, d.files[n], there
}

// Write puts bytes into a file, from offset at on.
func (d *Disk) Write(name string, at int, b []byte) api.Errno {
	if e := d.ready(); e != api.OK {
		return e
	}
	n, f, there := d.find(name)
	if !there {
		return api.ErrNone
	}
	if at < 0 || at > len(f.bytes) {
		return api.ErrRange
	}
	size := max(len(f.bytes), at+len(b))
	if size > api.MaxFile {
		return api.ErrLong
	}
	used, _ := d.Used()
	if used-sectors(len(f.bytes))+sectors(size) > d.room {
		return api.ErrFull
	}
	d.loosen(n, f, at, at+len(b))
	within := copy(f.bytes[at:], b)
	f.bytes = append(f.bytes, b[within:]...)
	return d.done()
}

// loosen keeps what is fixed of the sectors that bytes from one offset to another lie in, ahead of their being written. What a loose sector has fixed is kept already.
func (d *Disk) loosen(n int, f *file, from, to int) {
	if from == to {
		return
	}
	for i := from / api.Sector; i < sectors(to); i++ {
		at := spot{n, i}
		if _, loose := d.olds[at]; loose {
			continue
		}
		d.olds[at] = slices.Clone(cut(f.bytes, i))
		f.written = append(f.written, i)
	}
}

// fix takes a file as it is now for what is fixed.
func (d *Disk) fix(n int, f *file) {
	for _, i := range f.written {
		delete(d.olds, spot{n, i})
	}
	f.written = nil
	f.fixed = len(f.bytes)
}

// Sync fixes a file's bytes and its size.
func (d *Disk) Sync(name string) api.Errno {
	if e := d.ready(); e != api.OK {
		return e
	}
	n, f, there := d.find(name)
	if !there {
		return api.ErrNone
	}
	d.fix(n, f)
	return d.done()
}

// Read are n bytes of a file, from offset at on.
func (d *Disk) Read(name string, at, n int) ([]byte, api.Errno) {
	if !d.made() {
		return nil, api.ErrNil
	}
	_, f, there := d.find(name)
	switch {
	case !there:
		return nil, api.ErrNone
	case at < 0 || n < 0 || len(f.bytes)-at < n:
		return nil, api.ErrRange
	}
	return slices.Clone(f.bytes[at : at+n]), api.OK
}

// Size is how many bytes a file has.
func (d *Disk) Size(name string) (int, api.Errno) {
	if !d.made() {
		return 0, api.ErrNil
	}
	_, f, there := d.find(name)
	if !there {
		return 0, api.ErrNone
	}
	return len(f.bytes), api.OK
}

// Rot spoils a byte of a file: what is fixed of it, too.
func (d *Disk) Rot(name string, at int, mask byte) api.Errno {
	if !d.made() {
		return api.ErrNil
	}
	n, f, there := d.find(name)
	switch {
	case !there:
		return api.ErrNone
	case at < 0 || at >= len(f.bytes):
		return api.ErrRange
	}
	f.bytes[at] ^= mask
	old := d.olds[spot{n, at / api.Sector}]
	if i := at % api.Sector; i < len(old) {
		old[i] ^= mask
	}
	return api.OK
}
