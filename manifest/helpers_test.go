package manifest_test

import (
	"encoding/binary"
	"encoding/hex"
	"hash/crc32"
	"iter"
	"slices"
	"strconv"
	"strings"
	"testing"

	"pedigree/api"
	"pedigree/disk"
	"pedigree/manifest"
)

// ok stops the test if one of the calls did not succeed.
func ok(t *testing.T, es ...api.Errno) {
	t.Helper()
	for i, e := range es {
		if e != api.OK {
			t.Fatalf("call %d: %d", i, e)
		}
	}
}

// is tells if a call answered another error.
func is(t *testing.T, what string, e, want api.Errno) {
	t.Helper()
	if e != want {
		t.Errorf("%s: %d, want %d", what, e, want)
	}
}

// rel is a relation with the runs of some numbers.
func rel(name string, numbers ...int) api.ManRel {
	r := api.ManRel{Name: name}
	for _, n := range numbers {
		r.Runs = append(r.Runs, "run."+strconv.Itoa(n))
	}
	return r
}

// small is a manifest of everything, some of it twice.
func small() api.Manifest {
	return api.Manifest{
		Program: "base e(int).",
		Segment: 2,
		At:      300,
		Batches: 5,
		Events:  129,
		Rels:    []api.ManRel{rel("e", 0, 128), rel("f"), rel("g", 7)},
		Next:    200,
	}
}

// greatest is a manifest at all limits.
func greatest() api.Manifest {
	m := api.Manifest{
		Program: strings.Repeat("p", 65536),
		Segment: 2147483647,
		At:      1048576,
		Batches: 9007199254740992,
		Events:  9007199254740992,
		Next:    2147483647,
	}
	for i := range 128 {
		r := api.ManRel{Name: strings.Repeat("n", 63) + string(rune(i))}
		for k := range 64 {
			r.Runs = append(r.Runs, "run."+strconv.Itoa(2147483646-64*i-k))
		}
		m.Rels = append(m.Rels, r)
	}
	return m
}

// valids are manifests that may be, by what they are.
func valids() map[string]api.Manifest {
	return map[string]api.Manifest{
		"nothing":        {},
		"small":          small(),
		"another":        other(),
		"greatest":       greatest(),
		"any bytes":      {Program: "\x00\xff\n", Rels: []api.ManRel{rel("\x00", 0), rel("\x80 "), rel("\xff\xff", 3, 1)}, Next: 4},
		"no runs":        {Rels: []api.ManRel{rel("a"), rel("b")}},
		"numbers":        {Segment: 1, At: 127, Batches: 128, Events: 16383, Next: 16384},
		"runs that fall": {Rels: []api.ManRel{rel("a", 9, 8), rel("b", 7, 6)}, Next: 10},
	}
}

// other is a manifest that has no number, and only one run, in common with small.
func other() api.Manifest {
	return api.Manifest{Program: "base e(sym).", Segment: 3, At: 29, Batches: 6, Events: 130, Rels: []api.ManRel{rel("e", 128), rel("h", 200)}, Next: 201}
}

// deep is a manifest in memory of its own.
func deep(m api.Manifest) api.Manifest {
	m.Rels = slices.Clone(m.Rels)
	for i, r := range m.Rels {
		m.Rels[i].Runs = slices.Clone(r.Runs)
	}
	return m
}

// alike tells if two manifests tell the same.
func alike(a, b api.Manifest) bool {
	return string(content(a)) == string(content(b))
}

// content are the bytes of a manifest that may be, by the document alone, without the seal.
func content(m api.Manifest) []byte {
	b := text(nil, m.Program)
	b = numbers(b, m.Segment, m.At, m.Batches, m.Events, m.Next, len(m.Rels))
	for _, r := range m.Rels {
		b = text(b, r.Name)
		b = numbers(b, len(r.Runs))
		for _, name := range r.Runs {
			n, _ := strconv.Atoi(name[len("run."):])
			b = numbers(b, n)
		}
	}
	return b
}

// text is what bytes are with a byte string behind them.
func text(b []byte, s string) []byte {
	return append(binary.AppendUvarint(b, uint64(len(s))), s...)
}

// numbers are what bytes are with numbers behind them.
func numbers(b []byte, l ...int) []byte {
	for _, n := range l {
		b = binary.AppendUvarint(b, uint64(n))
	}
	return b
}

// sealed are bytes with the encoding of their checksum behind them.
func sealed(b []byte) []byte {
	return binary.LittleEndian.AppendUint32(slices.Clone(b), crc32.ChecksumIEEE(b))
}

// newDisk is a new disk.
func newDisk(t *testing.T, room int) *disk.Disk {
	t.Helper()
	d, e := disk.New(room)
	ok(t, e)
	return d
}

// noDisks are disks that no function made.
func noDisks(t *testing.T) []*disk.Disk {
	t.Helper()
	made := newDisk(t, 10)
	ok(t, made.Create("manifest"), made.Create("run.0"))
	taken := *made
	return []*disk.Disk{nil, {}, &taken}
}

// put makes a file of these bytes, in place of what has the name, and fixes it.
func put(t *testing.T, d *disk.Disk, name string, b []byte) {
	t.Helper()
	d.Delete(name)
	ok(t, d.Create(name), d.Write(name, 0, b), d.Sync(name), d.SyncDir())
}

// laid is a disk with these files, all fixed.
func laid(t *testing.T, names ...string) *disk.Disk {
	t.Helper()
	d := newDisk(t, 10000)
	for _, name := range names {
		put(t, d, name, []byte("of "+name))
	}
	return d
}

// read are the bytes of a file.
func read(t *testing.T, d *disk.Disk, name string) []byte {
	t.Helper()
	n, e := d.Size(name)
	ok(t, e)
	b, e := d.Read(name, 0, n)
	ok(t, e)
	return b
}

// seen is what a disk holds.
func seen(t *testing.T, d *disk.Disk) string {
	t.Helper()
	var s strings.Builder
	for _, name := range d.Names() {
		s.WriteString(strconv.Quote(name) + " " + hex.EncodeToString(read(t, d, name)) + "\n")
	}
	return s.String()
}

// choices are all lists of n choices.
func choices(n int) iter.Seq[[]bool] {
	return func(yield func([]bool) bool) {
		for bits := range 1 << n {
			l := make([]bool, n)
			for i := range l {
				l[i] = bits>>i&1 == 1
			}
			if !yield(l) {
				return
			}
		}
	}
}

// losses yields the disks behind all losses of power.
func losses(t *testing.T, d *disk.Disk) iter.Seq[*disk.Disk] {
	t.Helper()
	changes, sectors, sizes := d.Loose()
	if sectors+sizes > 12 {
		t.Fatalf("%d, %d, %d are too many to try all losses", changes, sectors, sizes)
	}
	return func(yield func(*disk.Disk) bool) {
		for dir := range changes + 1 {
			for keep := range choices(sectors) {
				for size := range choices(sizes) {
					x, e := d.Lose(api.Loss{Dir: dir, Keep: keep, Size: size})
					ok(t, e)
					if !yield(x) {
						return
					}
				}
			}
		}
	}
}

// shown is what a disk holds, what is loose, and what it holds behind each loss of power.
func shown(t *testing.T, d *disk.Disk) string {
	t.Helper()
	var s strings.Builder
	s.WriteString(seen(t, d))
	for x := range losses(t, d) {
		s.WriteString(":\n" + seen(t, x))
	}
	return s.String()
}

// loads tells if Load answers another manifest.
func loads(t *testing.T, what string, d *disk.Disk, want api.Manifest) {
	t.Helper()
	if m, is, e := manifest.Load(d); e != api.OK || !is || !alike(m, want) {
		t.Errorf("%s: Load: %v, %t, %d, want %v", what, m, is, e, want)
	}
}

// loadsNone tells if Load answers a manifest, or another error.
func loadsNone(t *testing.T, what string, d *disk.Disk, want api.Errno) {
	t.Helper()
	if m, is, e := manifest.Load(d); !zero(m) || is || e != want {
		t.Errorf("%s: Load: %v, %t, %d, want %d", what, m, is, e, want)
	}
}

// zero tells if a manifest has nothing.
func zero(m api.Manifest) bool {
	return len(m.Rels) == 0 && m.Program == "" && m.Segment|m.At|m.Batches|m.Events|m.Next == 0
}
