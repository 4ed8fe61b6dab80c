package store

import (
	"slices"

	"pedigree/api"
	"pedigree/merge"
	"pedigree/run"
)

// Flush makes a run of the rest.
func (s *Store) Flush(name string) api.Errno {
	switch {
	case !s.made():
		return api.ErrNil
	case len(s.rest) == 0:
		return api.OK
	case len(s.runs) == api.MaxRuns:
		return api.ErrMany
	}
	e := s.stack(len(s.runs), name, s.Rest()...)
	if e == api.OK {
		clear(s.rest)
	}
	return e
}

// Compact makes one run of the last k.
func (s *Store) Compact(k int, name string) api.Errno {
	switch {
	case !s.made():
		return api.ErrNil
	case k < 1 || k > len(s.runs):
		return api.ErrRange
	}
	from := len(s.runs) - k
	cursors, e := s.cursors(s.runs[from:]...)
	if e != api.OK {
		return e
	}
	return s.stack(from, name, merge.Rest(merge.Sum(cursors...))...)
}

// stack puts a run of these entries in place of all runs from one on: none if there are no entries.
func (s *Store) stack(from int, name string, l ...api.Counted) api.Errno {
	var runs []*run.Run
	if len(l) > 0 {
		if e := run.Write(s.disk, name, l...); e != api.OK {
			return e
		}
		r, e := run.Open(s.disk, name)
		if e != api.OK {
			return e
		}
		runs = append(runs, r)
	}
	s.runs = slices.Replace(s.runs, from, len(s.runs), runs...)
	return api.OK
}
