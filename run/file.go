package run

import (
	"slices"
	"sort"

	"pedigree/api"
	"pedigree/disk"
	"pedigree/tuple"
)

// Write makes a run's file, and fixes it.
func Write(d *disk.Disk, name string, l ...api.Counted) api.Errno {
	return tried(func() {
		b := got(Bytes(l...))
		need(d.Create(name))
		need(d.Write(name, 0, b))
		need(d.Sync(name))
	})
}

// Run is one that lies in a file.
type Run struct {
	self  *Run // by Open: a copy of the struct is not what it made
	disk  *disk.Disk
	name  string
	index index
}

// Open reads a run's index.
func Open(d *disk.Disk, name string) (*Run, api.Errno) {
	return answered(func() *Run {
		size := got(d.Size(name))
		b := got(d.Read(name, 0, size))
		r := &Run{disk: d, name: name, index: indexOf(b)}
		r.self = r
		return r
	})
}

func (r *Run) made() bool {
	return r != nil && r.self == r
}

// Name is the file's.
func (r *Run) Name() string {
	if !r.made() {
		return ""
	}
	return r.name
}

// Len is how many pages, and entries, there are.
func (r *Run) Len() (int, int) {
	if !r.made() {
		return 0, 0
	}
	return len(r.index.spans), r.index.entries
}

// spanOf is where a page lies.
func (r *Run) spanOf(i int) (span, api.Errno) {
	switch {
	case !r.made():
		return span{}, api.ErrNil
	case i < 0 || i >= len(r.index.spans):
		return span{}, api.ErrRange
	}
	return r.index.spans[i], api.OK
}

// Fence is the first tuple of a page.
func (r *Run) Fence(i int) (api.Tuple, api.Errno) {
	s, e := r.spanOf(i)
	return slices.Clone(s.first), e
}

// Find is the page in which a tuple would stand.
func (r *Run) Find(t api.Tuple) int {
	if !r.made() {
		return 0
	}
	l := r.index.spans
	above := sort.Search(len(l), func(i int) bool { return tuple.Compare(l[i].first, t) > 0 })
	return above - 1
}

// Page reads a page.
func (r *Run) Page(i int) ([]api.Counted, api.Errno) {
	return answered(func() []api.Counted {
		s := got(r.spanOf(i))
		return s.entries(got(r.disk.Read(r.name, s.at, s.size)))
	})
}
