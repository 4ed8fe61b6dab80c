package journal

import (
	"maps"
	"slices"
	"strconv"
	"strings"

	"pedigree/api"
)

func (j *Journal) markName() string {
	return j.conf.Name + ".mark"
}

func (j *Journal) segmentName(n int) string {
	return j.conf.Name + "." + strconv.Itoa(n)
}

// number is the number of the segment that a file is, if it is one. A name that tells a number in another spelling is somebody else's.
func (j *Journal) number(name string) (int, bool) {
	n, err := strconv.Atoi(strings.TrimPrefix(name, j.conf.Name+"."))
	if err != nil || n < 1 || n > api.MaxSegments || j.segmentName(n) != name {
		return 0, false
	}
	return n, true
}

// segments are those that there are, by their numbers.
func (j *Journal) segments() map[int]struct{} {
	l := map[int]struct{}{}
	for _, name := range j.disk.Names() {
		if n, ok := j.number(name); ok {
			l[n] = struct{}{}
		}
	}
	return l
}

// first is the number of the first segment. If the last one is not there, there is no first one either, and the number is beyond it.
func (j *Journal) first() int {
	there := j.segments()
	n := j.end.Segment + 1
	for {
		if _, ok := there[n-1]; !ok {
			return n
		}
		n--
	}
}

// holds tells if a segment is one from the first to the last.
func (j *Journal) holds(n int) bool {
	return n >= j.first() && n <= j.end.Segment
}

// lay makes a file of bytes, and fixes these.
func (j *Journal) lay(name string, b []byte) api.Errno {
	return inTurn(
		func() api.Errno { return j.disk.Create(name) },
		func() api.Errno { return j.disk.Write(name, 0, b) },
		func() api.Errno { return j.disk.Sync(name) },
	)
}

// remove deletes a file, if there is one.
func (j *Journal) remove(name string) api.Errno {
	if _, e := j.disk.Size(name); e == api.ErrNone {
		return api.OK
	}
	return j.disk.Delete(name)
}

// drop deletes the segments before n, rising: whatever a loss of power undoes of it, those that are left have no gap.
func (j *Journal) drop(n int) api.Errno {
	for _, i := range slices.Sorted(maps.Keys(j.segments())) {
		if i >= n {
			break
		}
		if e := j.disk.Delete(j.segmentName(i)); e != api.OK {
			return e
		}
	}
	return api.OK
}

// Trim deletes the segments before n.
func (j *Journal) Trim(n int) api.Errno {
	switch {
	case !j.ready():
		return api.ErrNil
	case !j.holds(n):
		return api.ErrPlace
	}
	return j.drop(n)
}
