package journal_test

import (
	"bytes"
	"encoding/binary"
	"encoding/hex"
	"hash/crc32"
	"iter"
	"maps"
	"math"
	"slices"
	"strconv"
	"strings"
	"testing"

	"pedigree/api"
	"pedigree/disk"
	"pedigree/journal"
)

// set are the settings of most tests.
var set = api.JournalConf{Name: "j", Segment: 100}

// newDisk is a new disk.
func newDisk(t *testing.T, room int) *disk.Disk {
	t.Helper()
	d, e := disk.New(room)
	ok(t, e)
	return d
}

// ok stops the test if one of the calls did not succeed.
func ok(t *testing.T, es ...api.Errno) {
	t.Helper()
	for i, e := range es {
		if e != api.OK {
			t.Fatalf("call %d: %d", i, e)
		}
	}
}

// is tells if an error is another one.
func is(t *testing.T, what string, e, want api.Errno) {
	t.Helper()
	if e != want {
		t.Errorf("%s: %d, not %d", what, e, want)
	}
}

// numbers are the document's bytes of numbers.
func numbers(l ...uint64) []byte {
	var b []byte
	for _, n := range l {
		b = binary.LittleEndian.AppendUint64(b, n)
	}
	return b
}

// sealed are bytes with their checksum behind, made without package crc.
func sealed(b []byte) []byte {
	return binary.LittleEndian.AppendUint32(bytes.Clone(b), crc32.ChecksumIEEE(b))
}

// framed is the document's frame, made without package crc.
func framed(kind byte, body []byte) []byte {
	return append(sealed(binary.LittleEndian.AppendUint32([]byte{kind}, uint32(len(body)))), sealed(body)...)
}

func header(before, batches uint64) []byte {
	return framed(2, numbers(before, batches))
}

// marked is the document's mark.
func marked(segment, at, batches uint64) []byte {
	b := append([]byte{80, 77, 82, 75}, numbers(segment, at, batches)...)
	return sealed(append(b, make([]byte, 60-len(b))...))
}

// segment is a header with the frames of batches.
func segment(before, batches uint64, l ...string) []byte {
	b := header(before, batches)
	for _, s := range l {
		b = append(b, framed(1, []byte(s))...)
	}
	return b
}

// put makes a file of these bytes, in place of what has the name, and fixes it.
func put(t *testing.T, d *disk.Disk, name string, b []byte) {
	t.Helper()
	d.Delete(name)
	ok(t, d.Create(name), d.Write(name, 0, b), d.Sync(name), d.SyncDir())
}

// laid is a disk with these files, all of them fixed.
func laid(t *testing.T, files map[string][]byte) *disk.Disk {
	t.Helper()
	d := newDisk(t, 4096)
	for _, name := range slices.Sorted(maps.Keys(files)) {
		put(t, d, name, files[name])
	}
	return d
}

// content are the bytes of a file.
func content(t *testing.T, d *disk.Disk, name string) []byte {
	t.Helper()
	n, e := d.Size(name)
	ok(t, e)
	b, e := d.Read(name, 0, n)
	ok(t, e)
	return b
}

// seen is what a disk holds.
func seen(t *testing.T, d *disk.Disk) string {
	t.Helper()
	var s strings.Builder
	for _, name := range d.Names() {
		s.WriteString(strconv.Quote(name) + " " + hex.EncodeToString(content(t, d, name)) + "\n")
	}
	return s.String()
}

// choices are all lists of n choices.
func choices(n int) iter.Seq[[]bool] {
	return func(yield func([]bool) bool) {
		for bits := range 1 << n {
			l := make([]bool, n)
			for i := range l {
				l[i] = bits>>i&1 == 1
			}
			if !yield(l) {
				return
			}
		}
	}
}

// losses yields the disks behind all losses of power.
func losses(t *testing.T, d *disk.Disk) iter.Seq2[api.Loss, *disk.Disk] {
	t.Helper()
	changes, sectors, sizes := d.Loose()
	if sectors+sizes > 12 {
		t.Fatalf("%d, %d, %d are too many to try all losses", changes, sectors, sizes)
	}
	return func(yield func(api.Loss, *disk.Disk) bool) {
		for dir := range changes + 1 {
			for keep := range choices(sectors) {
				for size := range choices(sizes) {
					c := api.Loss{Dir: dir, Keep: keep, Size: size}
					x, e := d.Lose(c)
					ok(t, e)
					if !yield(c, x) {
						return
					}
				}
			}
		}
	}
}

// shown is what a disk holds, and what it holds behind each loss of power.
func shown(t *testing.T, d *disk.Disk) string {
	t.Helper()
	var s strings.Builder
	s.WriteString(seen(t, d))
	for c, x := range losses(t, d) {
		s.WriteString(strconv.Itoa(c.Dir) + ":\n" + seen(t, x))
	}
	return s.String()
}

// same tells if what a disk shows has changed.
func same(t *testing.T, what string, d *disk.Disk, before string) {
	t.Helper()
	if now := shown(t, d); now != before {
		t.Errorf("%s changed the disk\n%s\nto\n%s", what, before, now)
	}
}

func created(t *testing.T, d *disk.Disk, c api.JournalConf) *journal.Journal {
	t.Helper()
	j, e := journal.Create(d, c)
	if e != api.OK || j == nil {
		t.Fatalf("Create: %v, %d", j, e)
	}
	return j
}

func opened(t *testing.T, d *disk.Disk, c api.JournalConf) *journal.Journal {
	t.Helper()
	j, e := journal.Open(d, c)
	if e != api.OK || j == nil {
		t.Fatalf("Open: %v, %d", j, e)
	}
	return j
}

// refuses tells if Open answers anything but this error.
func refuses(t *testing.T, what string, d *disk.Disk, c api.JournalConf, want api.Errno) {
	t.Helper()
	if j, e := journal.Open(d, c); j != nil || e != want {
		t.Errorf("%s: Open: %v, %d, not %d", what, j, e, want)
	}
}

func appended(t *testing.T, j *journal.Journal, l ...string) {
	t.Helper()
	for _, s := range l {
		ok(t, j.Append([]byte(s)))
	}
}

// texts are batches as strings.
func texts(l [][]byte) []string {
	var s []string
	for _, b := range l {
		s = append(s, string(b))
	}
	return s
}

// all are the batches from the first place on.
func all(t *testing.T, j *journal.Journal) []string {
	t.Helper()
	p, e := j.First()
	ok(t, e)
	l, e := j.Read(p)
	ok(t, e)
	return texts(l)
}

// reads tells if the batches behind a place are others.
func reads(t *testing.T, j *journal.Journal, p api.Place, want ...string) {
	t.Helper()
	if l, e := j.Read(p); e != api.OK || !slices.Equal(texts(l), want) {
		t.Errorf("Read(%v): %q, %d, not %q", p, l, e, want)
	}
}

// fails tells if Read answers anything but this error.
func fails(t *testing.T, what string, j *journal.Journal, p api.Place, want api.Errno) {
	t.Helper()
	if l, e := j.Read(p); len(l) != 0 || e != want {
		t.Errorf("%s: Read(%v): %q, %d, not %d", what, p, l, e, want)
	}
}

// ends tells if a journal's end is another one.
func ends(t *testing.T, j *journal.Journal, segment, at, batch int) {
	t.Helper()
	if p := j.End(); p != (api.Place{Segment: segment, At: at, Batch: batch}) {
		t.Errorf("End: %v, not %d, %d, %d", p, segment, at, batch)
	}
}

// begins tells if a journal's first place is another one.
func begins(t *testing.T, j *journal.Journal, segment, batch int) {
	t.Helper()
	if p, e := j.First(); e != api.OK || p != (api.Place{Segment: segment, At: 29, Batch: batch}) {
		t.Errorf("First: %v, %d, not %d, 29, %d", p, e, segment, batch)
	}
}

// steps are modifying calls.
type steps []func(d *disk.Disk) api.Errno

func creates(name string) steps {
	return steps{func(d *disk.Disk) api.Errno { return d.Create(name) }}
}

func writes(name string, at int, b []byte) steps {
	return steps{func(d *disk.Disk) api.Errno { return d.Write(name, at, b) }}
}

func syncs(name string) steps {
	return steps{func(d *disk.Disk) api.Errno { return d.Sync(name) }}
}

func deletes(name string) steps {
	return steps{func(d *disk.Disk) api.Errno { return d.Delete(name) }}
}

func syncsDir() steps {
	return steps{(*disk.Disk).SyncDir}
}

// takes tells if a call does other modifying calls than these, in this order. A fuse stops it at each of them.
func takes(t *testing.T, before func() *disk.Disk, call func(d *disk.Disk) func() api.Errno, parts ...steps) {
	t.Helper()
	want := slices.Concat(parts...)
	for n := range len(want) + 1 {
		d, by := before(), before()
		do := call(d)
		ok(t, d.Fuse(n))
		e := do()
		if !d.Down() {
			t.Errorf("%d modifying calls, not %d", n, len(want))
			return
		}
		if n < len(want) {
			is(t, "fuse "+strconv.Itoa(n), e, api.ErrDown)
		} else {
			is(t, "fuse "+strconv.Itoa(n), e, api.OK)
		}
		for _, step := range want[:n] {
			ok(t, step(by))
		}
		same(t, "fuse "+strconv.Itoa(n), d, shown(t, by))
	}
}

// others are names beside those of the journal j that look like them.
func others() []string {
	return []string{
		"j", "j.", ".1", "1", "mark", ".mark", "j.0", "j.01", "j.-1", "j.+1", "j. 1", "j.1 ", "j.1.1", "j.1.mark", "j.mark.1", "j..1", "jj.1", "J.1", "J.mark", "j.Mark", "j.mark2",
		"j.0x1", "j.1e0", "j.1_0", "j.１", "j.1073741825", "j.4294967297", "j.18446744073709551617", "j.99999999999999999999999", "xj.1", "j.mark.mark", "j.marks", "k.1", "k.mark",
	}
}

// withOthers puts files of those names on a disk.
func withOthers(t *testing.T, d *disk.Disk) {
	t.Helper()
	for _, name := range others() {
		ok(t, d.Create(name), d.Write(name, 0, []byte(name)), d.Sync(name))
	}
	ok(t, d.SyncDir())
}

// besides tells if one of those files has changed.
func besides(t *testing.T, what string, d *disk.Disk) {
	t.Helper()
	for _, name := range others() {
		if n, e := d.Size(name); e != api.OK || n != len(name) || string(content(t, d, name)) != name {
			t.Errorf("%s: %q was touched: %d bytes, %d", what, name, n, e)
		}
	}
}

// row are the bytes whose numbers, in sixteens, are written down with blanks between.
func row(s string) []byte {
	b, err := hex.DecodeString(strings.ReplaceAll(s, " ", ""))
	if err != nil {
		panic(err)
	}
	return b
}

// TestCreateExample is the document's, byte by byte: the checksums come from another implementation.
func TestCreateExample(t *testing.T) { // P6.1
	d := newDisk(t, 100)
	j := created(t, d, set)
	if l := d.Names(); !slices.Equal(l, []string{"j.1", "j.mark"}) {
		t.Fatalf("files %q", l)
	}
	if b := content(t, d, "j.1"); len(b) != 29 || !bytes.Equal(b, row("02 10 00 00 00 e2 f3 fb ec 00 00 00 00 00 00 00 00 00 00 00 00 00 00 00 00 55 4b bb ec")) {
		t.Errorf("j.1 is % x", b)
	}
	mark := row("50 4d 52 4b 01 00 00 00 00 00 00 00 1d 00 00 00 00 00 00 00 00 00 00 00 00 00 00 00" + strings.Repeat(" 00", 32) + " ad e6 5f 08")
	if b := content(t, d, "j.mark"); len(b) != 64 || !bytes.Equal(b, mark) {
		t.Errorf("j.mark is % x", b)
	}
	if c, s, z := d.Loose(); c != 0 || s != 0 || z != 0 {
		t.Errorf("loose %d, %d, %d", c, s, z)
	}
	ends(t, j, 1, 29, 0)
	begins(t, j, 1, 0)
	reads(t, j, j.End())
	if j.Stuck() {
		t.Error("stuck")
	}
}

func TestCreateSteps(t *testing.T) { // P6.1
	call := func(d *disk.Disk) func() api.Errno {
		return func() api.Errno {
			_, e := journal.Create(d, set)
			return e
		}
	}
	fresh := slices.Concat(creates("j.1"), writes("j.1", 0, header(0, 0)), syncs("j.1"), creates("j.mark"), writes("j.mark", 0, marked(1, 29, 0)), syncs("j.mark"), syncsDir())
	takes(t, func() *disk.Disk { return newDisk(t, 9) }, call, fresh)
	old := func() *disk.Disk {
		return laid(t, map[string][]byte{"j.2": segment(0, 0, "old"), "j.10": nil, "j.9": []byte("x"), "j.1073741824": nil, "j.mark": marked(2, 45, 1), "k.1": nil})
	}
	takes(t, old, call, deletes("j.mark"), deletes("j.2"), deletes("j.9"), deletes("j.10"), deletes("j.1073741824"), fresh)
	takes(t, func() *disk.Disk { return laid(t, map[string][]byte{"j.1": segment(0, 0, "old")}) }, call, deletes("j.1"), fresh)
	takes(t, func() *disk.Disk { return laid(t, map[string][]byte{"j.mark": nil, "j.01": nil}) }, call, deletes("j.mark"), fresh)
}

// TestCreateAnew: nothing of an old journal is left, not even what was not fixed.
func TestCreateAnew(t *testing.T) { // P6.1
	d := newDisk(t, 400)
	j := created(t, d, set)
	for i := range 20 {
		appended(t, j, strings.Repeat("old", i))
	}
	ok(t, d.Create("j.77"), d.Write("j.77", 0, []byte("loose")))
	j = created(t, d, api.JournalConf{Name: "j", Segment: 64})
	if l := d.Names(); !slices.Equal(l, []string{"j.1", "j.mark"}) {
		t.Errorf("files %q", l)
	}
	ends(t, j, 1, 29, 0)
	appended(t, j, "new")
	if l := all(t, opened(t, d, set)); !slices.Equal(l, []string{"new"}) {
		t.Errorf("batches %q", l)
	}
}

// TestCreateFails: an error of the disk ends the call where it occurs.
func TestCreateFails(t *testing.T) { // P6.1
	d := newDisk(t, 1)
	j, e := journal.Create(d, set)
	if j != nil || e != api.ErrFull {
		t.Errorf("a disk of one sector: %v, %d", j, e)
	}
	if got, want := seen(t, d), "\"j.1\" "+hex.EncodeToString(header(0, 0))+"\n\"j.mark\" \n"; got != want {
		t.Errorf("a disk of one sector holds %s, not %s", got, want)
	}
	for n, want := range map[int]api.Errno{254: api.OK, 255: api.ErrMany, 256: api.ErrMany} {
		d := newDisk(t, 10)
		for i := range n {
			ok(t, d.Create("other"+strconv.Itoa(i)))
		}
		j, e := journal.Create(d, set)
		if e != want || (j == nil) != (e != api.OK) {
			t.Errorf("%d other files: %v, %d, not %d", n, j, e, want)
		}
		if l := d.Names(); len(l) != min(n+2, 256) {
			t.Errorf("%d other files: %d are there", n, len(l))
		}
	}
	d = newDisk(t, 10)
	ok(t, d.Fuse(0))
	if j, e := journal.Create(d, set); j != nil || e != api.ErrDown {
		t.Errorf("a disk that is down: %v, %d", j, e)
	}
}

// goodSettings are valid, some of them just so.
func goodSettings() []api.JournalConf {
	return []api.JournalConf{
		{Name: "j", Segment: 64}, {Name: "j", Segment: 65}, {Name: "j", Segment: 1<<19 - 1}, {Name: "j", Segment: 1 << 19}, {Name: strings.Repeat("n", 39), Segment: 100}, {Name: strings.Repeat("n", 40), Segment: 64},
		{Name: ".", Segment: 100}, {Name: "\x00", Segment: 100}, {Name: "\xff\xfe", Segment: 100}, {Name: "a/b c", Segment: 100}, {Name: "j.1", Segment: 100}, {Name: "j.mark", Segment: 100}, {Name: "7", Segment: 100},
	}
}

func TestGoodSettings(t *testing.T) { // P6.1, P6.2
	for _, c := range goodSettings() {
		d := newDisk(t, 100)
		refuses(t, "nothing is there", d, c, api.ErrNone)
		j := created(t, d, c)
		if l := d.Names(); !slices.Equal(l, []string{c.Name + ".1", c.Name + ".mark"}) {
			t.Errorf("%q: files %q", c.Name, l)
		}
		appended(t, j, "one", strings.Repeat("x", 50), "three")
		j = opened(t, d, c)
		if l := all(t, j); !slices.Equal(l, []string{"one", strings.Repeat("x", 50), "three"}) {
			t.Errorf("%v: %q", c, l)
		}
	}
}

func badSettings() []api.JournalConf {
	return []api.JournalConf{
		{}, {Name: "j"}, {Segment: 100}, {Name: "", Segment: 64}, {Name: strings.Repeat("n", 41), Segment: 100}, {Name: strings.Repeat("n", 70), Segment: 100}, {Name: strings.Repeat("é", 21), Segment: 100},
		{Name: "j", Segment: 63}, {Name: "j", Segment: 0}, {Name: "j", Segment: -1}, {Name: "j", Segment: -100}, {Name: "j", Segment: 1<<19 + 1}, {Name: "j", Segment: 1 << 20}, {Name: "j", Segment: math.MaxInt}, {Name: "j", Segment: math.MinInt},
	}
}

func TestBadSettings(t *testing.T) { // P6.1, P6.2
	d := newDisk(t, 100)
	appended(t, created(t, d, set), "one")
	down := newDisk(t, 100)
	ok(t, down.Fuse(0))
	before := shown(t, d)
	for _, c := range badSettings() {
		for _, on := range []*disk.Disk{d, newDisk(t, 1), down} {
			if j, e := journal.Create(on, c); j != nil || e != api.ErrJournal {
				t.Errorf("Create(%v): %v, %d", c, j, e)
			}
			refuses(t, "settings", on, c, api.ErrJournal)
		}
	}
	same(t, "settings that may not be", d, before)
}

// noDisks are those that neither New nor Lose made.
func noDisks(t *testing.T) map[string]*disk.Disk {
	d := newDisk(t, 10)
	created(t, d, set)
	copied := *d
	return map[string]*disk.Disk{"nil": nil, "new": new(disk.Disk), "zero": {}, "copied": &copied}
}

func TestNoDisk(t *testing.T) { // P6.1, P6.2
	for what, d := range noDisks(t) {
		for _, c := range append(badSettings(), goodSettings()...) {
			if j, e := journal.Create(d, c); j != nil || e != api.ErrNil {
				t.Errorf("%s: Create(%v): %v, %d", what, c, j, e)
			}
			refuses(t, what, d, c, api.ErrNil)
		}
	}
}

// noJournals are those that neither Create nor Open made.
func noJournals(t *testing.T) map[string]*journal.Journal {
	j := created(t, newDisk(t, 10), set)
	appended(t, j, "one")
	copied := *j
	return map[string]*journal.Journal{"nil": nil, "new": new(journal.Journal), "zero": {}, "copied": &copied}
}

func TestNoJournal(t *testing.T) { // P6.3 to P6.6
	for what, j := range noJournals(t) {
		for range 2 {
			is(t, what+" Append", j.Append([]byte("x")), api.ErrNil)
			is(t, what+" Append", j.Append(make([]byte, 1<<16+1)), api.ErrNil)
			p, e := j.First()
			is(t, what+" First", e, api.ErrNil)
			for _, at := range []api.Place{{}, {Segment: 1, At: 29}, {Segment: 1, At: 45, Batch: 1}, {Segment: -1, At: -1, Batch: -1}} {
				fails(t, what, j, at, api.ErrNil)
			}
			for _, n := range []int{1, 0, -1, 2} {
				is(t, what+" Trim", j.Trim(n), api.ErrNil)
			}
			if p != (api.Place{}) || j.End() != (api.Place{}) || j.Stuck() {
				t.Errorf("%s: %v, %v, %v", what, p, j.End(), j.Stuck())
			}
		}
	}
}

// TestDiskSpoilt: where the disk of a journal is none any more, that is the error.
func TestDiskSpoilt(t *testing.T) { // P6.3 to P6.6, the errors of the disk
	d := newDisk(t, 100)
	j := created(t, d, set)
	appended(t, j, "one")
	*d = disk.Disk{}
	is(t, "Append", j.Append(nil), api.ErrNil)
	is(t, "Append", j.Append(make([]byte, 1<<16+1)), api.ErrNil)
	_, e := j.First()
	is(t, "First", e, api.ErrNil)
	fails(t, "spoilt", j, api.Place{Segment: 1, At: 29}, api.ErrNil)
	fails(t, "spoilt", j, api.Place{}, api.ErrNil)
	is(t, "Trim", j.Trim(1), api.ErrNil)
	is(t, "Trim", j.Trim(0), api.ErrNil)
	ends(t, j, 1, 45, 1)
}

// TestCopiedJournal: a copy of a journal's struct is none, and leaves the journal alone.
func TestCopiedJournal(t *testing.T) { // P6.3, the rule on objects that were not made
	d := newDisk(t, 100)
	j := created(t, d, set)
	copied := *j
	is(t, "Append", copied.Append([]byte("x")), api.ErrNil)
	ends(t, j, 1, 29, 0)
	appended(t, j, "one")
	if l := all(t, j); !slices.Equal(l, []string{"one"}) {
		t.Errorf("batches %q", l)
	}
}

// TestApart: no file beside a journal's own is touched, and no journal's by another.
func TestApart(t *testing.T) { // P6.9
	d := newDisk(t, 2000)
	withOthers(t, d)
	j := created(t, d, set)
	besides(t, "Create", d)
	begins(t, j, 1, 0)
	for i := range 30 {
		appended(t, j, strings.Repeat("x", 2*i))
		besides(t, "Append", d)
	}
	ok(t, j.Trim(j.End().Segment-2))
	besides(t, "Trim", d)
	if len(d.Names()) != len(others())+4 {
		t.Errorf("files %q", d.Names())
	}
	created(t, d, set)
	besides(t, "Create", d)
	if len(d.Names()) != len(others())+2 {
		t.Errorf("files %q", d.Names())
	}
}

// TestTogether: journals on one disk have nothing to do with one another, whatever their names.
func TestTogether(t *testing.T) { // P6.9
	d := newDisk(t, 2000)
	names := []string{"j", "j.1", "j.mark", "jj", "J", "j.1.1", "1", "j."}
	var l []*journal.Journal
	for _, name := range names {
		l = append(l, created(t, d, api.JournalConf{Name: name, Segment: 64}))
	}
	want := map[string][]string{}
	for i := range 8 {
		for k, name := range names {
			s := strings.Repeat(name, i)
			want[name] = append(want[name], s)
			appended(t, l[k], s)
		}
	}
	ok(t, l[0].Trim(l[0].End().Segment))
	want["j"] = want["j"][len(want["j"])-len(all(t, l[0])):]
	for k, name := range names {
		if got := all(t, l[k]); !slices.Equal(got, want[name]) {
			t.Errorf("%q: %q, not %q", name, got, want[name])
		}
		if got := all(t, opened(t, d, api.JournalConf{Name: name, Segment: 64})); !slices.Equal(got, want[name]) {
			t.Errorf("%q, opened: %q, not %q", name, got, want[name])
		}
	}
}
