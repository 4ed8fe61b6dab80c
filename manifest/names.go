package manifest

import (
	"math"
	"strconv"
	"strings"

	"pedigree/api"
)

// The names of the files, or how they begin.
const (
	fileName      = "manifest"
	sideName      = "manifest.aside"
	runPrefix     = "run."
	segmentPrefix = "journal."
)

// mostNumber is the greatest number of a run, or of a segment.
const mostNumber = math.MaxInt32

// Run is the name of a run's file.
func Run(n int) (string, api.Errno) {
	return named(runPrefix, n)
}

// Segment is the name of a journal's file.
func Segment(n int) (string, api.Errno) {
	return named(segmentPrefix, n)
}

func named(prefix string, n int) (string, api.Errno) {
	if !upTo(mostNumber, n) {
		return "", api.ErrRange
	}
	return prefix + strconv.Itoa(n), api.OK
}

// numberBehind makes what splits a name: it tells the number behind the prefix, if the name is just these two. A number in another spelling makes another name.
func numberBehind(prefix string) func(name string) (int, bool) {
	return func(name string) (int, bool) {
		n, err := strconv.Atoi(strings.TrimPrefix(name, prefix))
		if err != nil {
			return 0, false
		}
		again, e := named(prefix, n)
		return n, e == api.OK && again == name
	}
}
