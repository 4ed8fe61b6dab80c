package manifest

import (
	"slices"

	"pedigree/api"
	"pedigree/disk"
)

// Orphans are files that do not count.
func Orphans(m api.Manifest, names ...string) []string {
	run, segment := numberBehind(runPrefix), numberBehind(segmentPrefix)
	times := runsOf(m)
	counts := func(name string) bool {
		if n, ok := segment(name); ok {
			return n >= m.Segment
		}
		if _, ok := run(name); ok {
			return times[name] > 0
		}
		return name != sideName
	}
	return slices.DeleteFunc(slices.Clone(names), counts)
}

// Sweep deletes them. Beside an error it tells no number, though some may be gone.
func Sweep(d *disk.Disk, m api.Manifest) (int, api.Errno) {
	if _, e := d.Size(sideName); e == api.ErrNil { // without a disk there are no names to ask for, and no error
		return 0, e
	}
	return answered(func() int {
		names := Orphans(m, d.Names()...)
		for _, name := range names {
			need(d.Delete(name))
		}
		if len(names) > 0 {
			need(d.SyncDir())
		}
		return len(names)
	})
}
