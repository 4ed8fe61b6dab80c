package manifest

import (
	"math"

	"pedigree/api"
	"pedigree/crc"
	"pedigree/pack"
)

// Bytes are a manifest's.
func Bytes(m api.Manifest) ([]byte, api.Errno) {
	if e := Check(m); e != api.OK {
		return nil, e
	}
	b := text(m.Program)
	b = append(b, numbers(m.Segment, m.At, m.Batches, m.Events, m.Next, len(m.Rels))...)
	for _, r := range m.Rels {
		b = append(b, text(r.Name)...)
		b = append(b, numbers(len(r.Runs))...)
		b = append(b, numbers(runNumbers(r.Runs)...)...)
	}
	return crc.Seal(b), api.OK
}

func text(s string) []byte {
	return pack.Text([]byte(s))
}

func numbers(l ...int) []byte {
	var b []byte
	for _, n := range l {
		b = append(b, pack.Num(uint64(n))...)
	}
	return b
}

// runNumbers are the numbers of runs, all of which have one.
func runNumbers(names []string) []int {
	number := numberBehind(runPrefix)
	var l []int
	for _, name := range names {
		n, _ := number(name)
		l = append(l, n)
	}
	return l
}

// Parse is the manifest of bytes.
func Parse(b []byte) (api.Manifest, api.Errno) {
	return answered(func() api.Manifest {
		content, e := crc.Open(b)
		intact(e == api.OK)
		r := &reader{content}
		m := r.manifest()
		intact(len(r.rest) == 0 && Check(m) == api.OK)
		return m
	})
}

// reader takes one thing after the other off the front of bytes.
type reader struct {
	rest []byte
}

// take is what first finds at the front.
func take[T any](r *reader, first func([]byte) (T, int, api.Errno)) T {
	x, n, e := first(r.rest)
	intact(e == api.OK)
	r.rest = r.rest[n:]
	return x
}

func (r *reader) text(most int) string {
	return string(take(r, func(b []byte) ([]byte, int, api.Errno) { return pack.TakeText(b, most) }))
}

func (r *reader) number() int {
	n := take(r, pack.TakeNum)
	intact(n <= math.MaxInt)
	return int(n)
}

// count is how many parts follow. Where there are more than may be, none of them is read.
func (r *reader) count(most int) int {
	n := r.number()
	intact(n <= most)
	return n
}

func (r *reader) manifest() api.Manifest {
	m := api.Manifest{
		Program: r.text(api.MaxText),
		Segment: r.number(),
		At:      r.number(),
		Batches: r.number(),
		Events:  r.number(),
		Next:    r.number(),
	}
	for range r.count(api.MaxRels) {
		m.Rels = append(m.Rels, r.rel())
	}
	return m
}

func (r *reader) rel() api.ManRel {
	x := api.ManRel{Name: r.text(api.MaxName)}
	for range r.count(api.MaxRuns) {
		name, e := Run(r.number())
		intact(e == api.OK)
		x.Runs = append(x.Runs, name)
	}
	return x
}
