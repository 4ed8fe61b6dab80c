package journal_test

import (
	"bytes"
	"math"
	"slices"
	"strconv"
	"strings"
	"testing"

	"pedigree/api"
	"pedigree/disk"
)

// TestReadOn: behind each place stand the batches that were appended since.
func TestReadOn(t *testing.T) { // P6.4, P6.8
	for _, size := range []int{64, 90, 150, 1 << 19} {
		d := newDisk(t, 4000)
		j := created(t, d, api.JournalConf{Name: "j", Segment: size})
		places, want := []api.Place{j.End()}, []string{}
		for i := range 40 {
			want = append(want, strings.Repeat(strconv.Itoa(i), i*7%23))
			appended(t, j, want[i])
			places = append(places, j.End())
			if j.End().Batch != i+1 {
				t.Fatalf("%v behind %d batches", j.End(), i+1)
			}
		}
		if last := j.End().Segment; (last == 1) != (size == 1<<19) {
			t.Errorf("segments of %d: %d", size, last)
		}
		for i, p := range places {
			reads(t, j, p, want[i:]...)
			reads(t, opened(t, d, set), p, want[i:]...)
		}
	}
}

// TestReadPlaces: of all numbers near, just the places are places, among them those behind headers.
func TestReadPlaces(t *testing.T) { // P6.4
	d := laid(t, three())
	before := shown(t, d)
	j := opened(t, d, set)
	for segment := -1; segment <= 5; segment++ {
		for at := -1; at <= 70; at++ {
			for batch := -1; batch <= 7; batch++ {
				p := api.Place{Segment: segment, At: at, Batch: batch}
				if slices.Contains(threePlaces(), p) {
					reads(t, j, p, threeBatches()[batch:]...)
				} else {
					fails(t, "no place", j, p, api.ErrPlace)
				}
			}
		}
	}
	for _, n := range []int{math.MinInt, math.MaxInt, 1 << 30, 1 << 32, 1<<32 + 1} {
		for _, p := range []api.Place{{Segment: n, At: 29}, {Segment: 1, At: n}, {Segment: 1, At: 29, Batch: n}, {Segment: n, At: n, Batch: n}} {
			fails(t, "no place", j, p, api.ErrPlace)
		}
	}
	same(t, "Read", d, before)
}

// TestReadNew: what Read answers is the caller's.
func TestReadNew(t *testing.T) { // P6.4, the rule on memory
	j := opened(t, laid(t, three()), set)
	p := api.Place{Segment: 1, At: 29}
	l, e := j.Read(p)
	ok(t, e)
	for i, b := range l {
		_ = append(b[:len(b):cap(b)], bytes.Repeat([]byte("!"), 50)...)
		for k := range b {
			b[k] = '?'
		}
		l[i] = append(b, "???"...)
	}
	reads(t, j, p, threeBatches()...)
	if string(l[0]) != "????" || string(l[2]) != "???" || string(l[4]) != "???????" {
		t.Errorf("%q", l)
	}
}

// TestReadRot: each valid byte from the header of the place's segment on counts, and none before it, nor behind the end.
func TestReadRot(t *testing.T) { // P6.4
	files := three()
	for i, size := range []int{58, 58, 46} {
		name := "j." + strconv.Itoa(i+1)
		files[name] = append(files[name], "rubbish behind what is valid"...)
		d := laid(t, files)
		j := opened(t, d, set)
		for at := range len(files[name]) {
			for _, mask := range []byte{1, 0x80, 0xff} {
				ok(t, d.Rot(name, at, mask))
				for _, p := range threePlaces() {
					if at < size && p.Segment <= i+1 {
						fails(t, name+" is spoilt at "+strconv.Itoa(at), j, p, api.ErrBad)
					} else {
						reads(t, j, p, threeBatches()[p.Batch:]...)
					}
				}
				ok(t, d.Rot(name, at, mask))
			}
		}
		for at := range 64 { // the mark was read by Open
			ok(t, d.Rot("j.mark", at, 0xff))
			reads(t, j, threePlaces()[0], threeBatches()...)
		}
	}
}

// TestReadOrder: what is wrong with the place's segment is told ahead of a place that is none in it, and this ahead of what is wrong with later ones.
func TestReadOrder(t *testing.T) { // P6.4
	d := laid(t, three())
	j := opened(t, d, set)
	wrong := func(segment int) []api.Place {
		return []api.Place{{Segment: segment, At: 30}, {Segment: segment, At: 29, Batch: 7}, {Segment: segment, At: 43, Batch: -1}, {Segment: segment}}
	}
	for _, p := range append(wrong(0), wrong(4)...) {
		ok(t, d.Rot("j.1", 0, 1), d.Rot("j.3", 0, 1))
		fails(t, "no such segment", j, p, api.ErrPlace)
		ok(t, d.Rot("j.1", 0, 1), d.Rot("j.3", 0, 1))
	}
	for i := range 3 {
		name := "j." + strconv.Itoa(i+1)
		for _, at := range []int{0, 28, 29, 45} {
			ok(t, d.Rot(name, at, 4))
			for segment := 1; segment <= 3; segment++ {
				for _, p := range wrong(segment) {
					switch {
					case segment == i+1:
						fails(t, name+" is spoilt", j, p, api.ErrBad)
					case segment != i || at >= 29: // where the next header is spoilt, nobody knows what is valid
						fails(t, name+" is spoilt", j, p, api.ErrPlace)
					}
				}
			}
			ok(t, d.Rot(name, at, 4))
		}
	}
	ok(t, d.Delete("j.3"), d.Create("j.3"))
	fails(t, "j.3 is empty", j, api.Place{Segment: 1, At: 29, Batch: 1}, api.ErrPlace)
	fails(t, "j.3 is empty", j, api.Place{Segment: 1, At: 29}, api.ErrBad)
	fails(t, "j.3 is empty", j, api.Place{Segment: 3, At: 1}, api.ErrBad)
}

// TestReadFrames: what is valid must be frames of batches, to the last byte.
func TestReadFrames(t *testing.T) { // P6.4
	one, two, last := three()["j.1"], three()["j.2"], three()["j.3"]
	with := func(l ...[]byte) []byte { return slices.Concat(l...) }
	for what, c := range map[string]struct {
		name  string
		bytes []byte
		bad   int // the last segment from which reading fails
	}{
		"the first batch has another kind":   {"j.1", with(header(0, 0), framed(3, []byte("a")), one[43:]), 1},
		"the last batch has another kind":    {"j.1", with(one[:43], framed(0, []byte("bc"))), 1},
		"a header in place of a batch":       {"j.2", with(header(58, 2), header(0, 0)), 2},
		"another kind in the last segment":   {"j.3", with(header(58, 4), framed(2, []byte("ghij"))), 0},
		"another kind of a header":           {"j.2", with(framed(1, numbers(58, 2)), two[29:]), 2},
		"another kind of the first header":   {"j.1", with(framed(1, numbers(0, 0)), one[29:]), 1},
		"a header of another length":         {"j.1", with(framed(2, numbers(0)), one[21:]), 1},
		"a great number in a header":         {"j.1", with(header(0, 1<<62), one[29:]), 1},
		"fewer bytes than are valid":         {"j.1", one[:57], 1},
		"fewer bytes in the second":          {"j.2", two[:42], 2},
		"no bytes":                           {"j.1", []byte{}, 1},
		"the next header tells too many":     {"j.2", with(header(59, 2), two[29:]), 1},
		"the next header tells far too many": {"j.2", with(header(1<<62-1, 2), two[29:]), 1},
		"the next header tells too few":      {"j.2", with(header(57, 2), two[29:]), 1},
		"the next header tells half a frame": {"j.2", with(header(50, 2), two[29:]), 1},
		"the next header tells no header":    {"j.2", with(header(28, 2), two[29:]), 1},
		"the next header tells nothing":      {"j.2", with(header(0, 2), two[29:]), 1},
		"the last segment is cut":            {"j.3", last[:45], 0},
		"the last segment has none":          {"j.3", header(58, 4), 0},
	} {
		d := laid(t, three())
		j := opened(t, d, set)
		put(t, d, c.name, c.bytes)
		for _, p := range threePlaces() {
			if c.bad == 0 || p.Segment <= c.bad {
				fails(t, what, j, p, api.ErrBad)
			} else {
				reads(t, j, p, threeBatches()[p.Batch:]...)
			}
		}
		fails(t, what, j, api.Place{Segment: 0, At: 29}, api.ErrPlace)
	}
}

// TestReadMore: one valid byte behind the last frame is too many.
func TestReadMore(t *testing.T) { // P6.4
	one, two, last := three()["j.1"], three()["j.2"], three()["j.3"]
	for _, more := range []string{"\x00", "\x01", "!!", "\x01\x00\x00\x00\x00"} {
		files := changed("j.3", append(bytes.Clone(last), more...))
		files["j.mark"] = marked(3, uint64(46+len(more)), 5)
		j := opened(t, laid(t, files), set)
		for _, p := range append(threePlaces(), j.End()) {
			fails(t, "more in the last segment", j, p, api.ErrBad)
		}
		files = changed("j.1", append(bytes.Clone(one), more...))
		files["j.2"] = append(header(uint64(58+len(more)), 2), two[29:]...)
		j = opened(t, laid(t, files), set)
		for _, p := range threePlaces() {
			if p.Segment == 1 {
				fails(t, "more in the first segment", j, p, api.ErrBad)
			} else {
				reads(t, j, p, threeBatches()[p.Batch:]...)
			}
		}
	}
}

// TestReadFewer: a header may tell that fewer batches of the segment before it are valid than stand there.
func TestReadFewer(t *testing.T) { // P6.4
	j := opened(t, laid(t, changed("j.2", append(header(43, 1), framed(1, []byte("next"))...))), set)
	j2 := opened(t, laid(t, map[string][]byte{"j.1": three()["j.1"], "j.2": segment(43, 1, "next"), "j.mark": marked(2, 46, 2)}), set)
	fails(t, "j.3 tells too many", j, api.Place{Segment: 1, At: 29}, api.ErrBad)
	fails(t, "not valid", j2, api.Place{Segment: 1, At: 58, Batch: 2}, api.ErrPlace)
	reads(t, j2, api.Place{Segment: 1, At: 29}, "a", "next")
	reads(t, j2, api.Place{Segment: 1, At: 43, Batch: 1}, "next")
	j3 := opened(t, laid(t, map[string][]byte{"j.1": three()["j.1"], "j.2": segment(29, 0, "only"), "j.mark": marked(2, 46, 1)}), set)
	reads(t, j3, api.Place{Segment: 1, At: 29}, "only")
	fails(t, "not valid", j3, api.Place{Segment: 1, At: 43, Batch: 1}, api.ErrPlace)
}

// TestReadCounts: the batches before a place in a segment are those that its header tells, and those ahead of it in the segment.
func TestReadCounts(t *testing.T) { // P6.4
	most := 1<<62 - 1
	j := opened(t, laid(t, map[string][]byte{"j.7": segment(0, uint64(most)-2, "a", "b"), "j.mark": marked(7, 57, uint64(most))}), set)
	begins(t, j, 7, most-2)
	ends(t, j, 7, 57, most)
	reads(t, j, api.Place{Segment: 7, At: 29, Batch: most - 2}, "a", "b")
	reads(t, j, api.Place{Segment: 7, At: 43, Batch: most - 1}, "b")
	reads(t, j, j.End())
	fails(t, "no place", j, api.Place{Segment: 7, At: 29}, api.ErrPlace)
}

// TestGap: the first segment is the least behind which none is missing.
func TestGap(t *testing.T) { // P6.4, P6.5
	for missing, first := range map[string]int{"j.1": 2, "j.2": 3} {
		d := laid(t, changed(missing, nil))
		put(t, d, "j.4", segment(46, 5, "beyond the end"))
		j := opened(t, d, set)
		begins(t, j, first, 2*first-2)
		if l := all(t, j); !slices.Equal(l, threeBatches()[2*first-2:]) {
			t.Errorf("without %s: %q", missing, l)
		}
		for _, p := range threePlaces() {
			if p.Segment < first {
				fails(t, "before the first segment", j, p, api.ErrPlace)
			} else {
				reads(t, j, p, threeBatches()[p.Batch:]...)
			}
		}
		before := shown(t, d)
		for _, n := range []int{first - 1, 1, 0, -1, 4, 5, math.MinInt, math.MaxInt} {
			is(t, "Trim", j.Trim(n), api.ErrPlace)
		}
		same(t, "Trim", d, before)
		ok(t, j.Trim(3))
		if l := d.Names(); !slices.Equal(l, []string{"j.3", "j.4", "j.mark"}) {
			t.Errorf("without %s, trimmed: %q", missing, l)
		}
		begins(t, j, 3, 4)
	}
}

// TestOtherNumerals: a segment has one name.
func TestOtherNumerals(t *testing.T) { // P6.4
	for _, name := range []string{"j.01", "j.+1", "j.1 ", "j.0x1", "J.1", "j.1.1"} {
		files := changed("j.1", nil)
		files[name] = three()["j.1"]
		d := laid(t, files)
		j := opened(t, d, set)
		begins(t, j, 2, 2)
		ok(t, j.Trim(3))
		if l := d.Names(); !slices.Contains(l, name) || len(l) != 3 {
			t.Errorf("files %q", l)
		}
	}
}

func TestFirstBad(t *testing.T) { // P6.4
	none := func(what string, d *disk.Disk, want api.Errno) {
		t.Helper()
		j := opened(t, laid(t, three()), set)
		if d != nil {
			j = opened(t, d, set)
		}
		if p, e := j.First(); p != (api.Place{}) || e != want {
			t.Errorf("%s: First: %v, %d, not %d", what, p, e, want)
		}
	}
	for what, b := range noHeaders() {
		none(what, laid(t, changed("j.1", append([]byte{}, b...))), api.ErrBad)
	}
	d := laid(t, three())
	j := opened(t, d, set)
	for at := range 58 {
		ok(t, d.Rot("j.1", at, 8))
		if p, e := j.First(); at < 29 && (p != (api.Place{}) || e != api.ErrBad) || at >= 29 && (p != api.Place{Segment: 1, At: 29} || e != api.OK) {
			t.Errorf("j.1 is spoilt at %d: %v, %d", at, p, e)
		}
		ok(t, d.Rot("j.1", at, 8))
	}
	for at := range 58 {
		ok(t, d.Rot("j.2", at, 8), d.Rot("j.3", at%46, 8))
		begins(t, j, 1, 0)
		ok(t, d.Rot("j.2", at, 8), d.Rot("j.3", at%46, 8))
	}
}

// TestLastGone: without the last segment there is no first one.
func TestLastGone(t *testing.T) { // P6.4, P6.5
	d := laid(t, changed("j.4", segment(46, 5, "beyond the end")))
	j := opened(t, d, set)
	ok(t, d.Delete("j.3"))
	if p, e := j.First(); p != (api.Place{}) || e != api.ErrNone {
		t.Errorf("First: %v, %d", p, e)
	}
	for _, p := range append(threePlaces(), api.Place{Segment: 4, At: 29, Batch: 5}) {
		fails(t, "the last segment is gone", j, p, api.ErrPlace)
	}
	for n := range 6 {
		is(t, "Trim", j.Trim(n), api.ErrPlace)
	}
	if l := d.Names(); !slices.Equal(l, []string{"j.1", "j.2", "j.4", "j.mark"}) {
		t.Errorf("files %q", l)
	}
}

func TestTrim(t *testing.T) { // P6.5, P6.8
	for n := 1; n <= 3; n++ {
		d := laid(t, three())
		j := opened(t, d, set)
		for _, wrong := range []int{0, -1, 4, 1 << 30, math.MinInt, math.MaxInt} {
			is(t, "Trim", j.Trim(wrong), api.ErrPlace)
		}
		ok(t, j.Trim(n))
		if changes, _, _ := d.Loose(); changes != n-1 {
			t.Errorf("Trim(%d): %d loose changes", n, changes)
		}
		begins(t, j, n, 2*n-2)
		ends(t, j, 3, 46, 5)
		for _, p := range threePlaces() {
			if p.Segment < n {
				fails(t, "trimmed", j, p, api.ErrPlace)
			} else {
				reads(t, j, p, threeBatches()[p.Batch:]...)
			}
		}
		for k := 1; k < n; k++ {
			is(t, "Trim", j.Trim(k), api.ErrPlace)
		}
		ok(t, j.Trim(n), d.SyncDir())
		appended(t, j, "more", strings.Repeat("x", 99))
		for _, x := range []func() []string{func() []string { return all(t, j) }, func() []string { return all(t, opened(t, d, set)) }} {
			if l := x(); !slices.Equal(l, append(threeBatches()[2*n-2:], "more", strings.Repeat("x", 99))) {
				t.Errorf("Trim(%d): %q", n, l)
			}
		}
	}
}

func TestTrimSteps(t *testing.T) { // P6.5
	trims := func(n int) func(d *disk.Disk) func() api.Errno {
		return func(d *disk.Disk) func() api.Errno {
			j := opened(t, d, set)
			return func() api.Errno { return j.Trim(n) }
		}
	}
	takes(t, func() *disk.Disk { return laid(t, three()) }, trims(1))
	takes(t, func() *disk.Disk { return laid(t, three()) }, trims(2), deletes("j.1"))
	takes(t, func() *disk.Disk { return laid(t, three()) }, trims(3), deletes("j.1"), deletes("j.2"))
	many := func() *disk.Disk {
		files := map[string][]byte{"j.mark": marked(12, 29, 0)}
		for n := range 12 {
			files["j."+strconv.Itoa(n+1)] = header(29, 0)
		}
		return laid(t, files)
	}
	var rising steps
	for n := range 11 {
		rising = append(rising, deletes("j."+strconv.Itoa(n+1))...)
	}
	takes(t, many, trims(12), rising)
	gap := func() *disk.Disk {
		return laid(t, map[string][]byte{"j.2": nil, "j.10": nil, "j.11": header(0, 0), "j.12": header(29, 0), "j.mark": marked(12, 29, 0)})
	}
	takes(t, gap, trims(12), deletes("j.2"), deletes("j.10"), deletes("j.11"))
}
