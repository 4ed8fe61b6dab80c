package store

import (
	"slices"

	"pedigree/api"
	"pedigree/merge"
	"pedigree/run"
	"pedigree/tuple"
)

// Get is a tuple's count.
func (s *Store) Get(t api.Tuple) (int64, api.Errno) {
	if !s.made() {
		return 0, api.ErrNil
	}
	text, _ := tuple.Text(t) // the empty text of a tuple that is not valid is none in the rest
	n := s.rest[text].N
	for _, r := range s.runs {
		i := r.Find(t)
		if i < 0 {
			continue
		}
		page, e := s.cache.Page(r, i)
		if e != api.OK {
			return 0, e
		}
		n += countIn(page, t)
	}
	return n, api.OK
}

// countIn is the count that a tuple has in a page.
func countIn(page []api.Counted, t api.Tuple) int64 {
	i, there := slices.BinarySearchFunc(page, t, func(c api.Counted, t api.Tuple) int { return tuple.Compare(c.T, t) })
	if !there {
		return 0
	}
	return page[i].N
}

// Scan is the content within two tuples.
func (s *Store) Scan(low, high api.Tuple) ([]api.Counted, api.Errno) {
	if !s.made() {
		return nil, api.ErrNil
	}
	cursors, e := s.cursors(s.runs...)
	if e != api.OK {
		return nil, e
	}
	within := func(c api.Counted) bool { return tuple.Within(low, c.T, high) }
	sums := merge.Sum(append(cursors, merge.Of(s.Rest()...))...)
	var l []api.Counted
	for c := range merge.All(merge.Only(within, sums)) {
		l = append(l, c)
	}
	return l, api.OK
}

// cursors are those over the entries of runs. They read nothing any more: which pages are read, and in which order, is to be seen in errors and in the cache.
func (s *Store) cursors(runs ...*run.Run) ([]merge.Cursor[api.Counted], api.Errno) {
	var l []merge.Cursor[api.Counted]
	for _, r := range runs {
		entries, e := s.entries(r)
		if e != api.OK {
			return nil, e
		}
		l = append(l, merge.Of(entries...))
	}
	return l, api.OK
}

// entries are those of all pages of a run.
func (s *Store) entries(r *run.Run) ([]api.Counted, api.Errno) {
	var l []api.Counted
	pages, _ := r.Len()
	for i := range pages {
		page, e := s.cache.Page(r, i)
		if e != api.OK {
			return nil, e
		}
		l = append(l, page...)
	}
	return l, api.OK
}
