package manifest_test

import (
	"math"
	"slices"
	"strings"
	"testing"

	"pedigree/api"
	"pedigree/manifest"
)

func TestRunSegment(t *testing.T) { // P11.1
	for n, digits := range map[int]string{0: "0", 1: "1", 9: "9", 10: "10", 100: "100", 2147483646: "2147483646", 2147483647: "2147483647"} {
		if s, e := manifest.Run(n); s != "run."+digits || e != api.OK {
			t.Errorf("Run(%d): %q, %d", n, s, e)
		}
		if s, e := manifest.Segment(n); s != "journal."+digits || e != api.OK {
			t.Errorf("Segment(%d): %q, %d", n, s, e)
		}
	}
	for _, n := range []int{-1, -2, -2147483648, math.MinInt, 2147483648, 4294967296, math.MaxInt} {
		if s, e := manifest.Run(n); s != "" || e != api.ErrRange {
			t.Errorf("Run(%d): %q, %d", n, s, e)
		}
		if s, e := manifest.Segment(n); s != "" || e != api.ErrRange {
			t.Errorf("Segment(%d): %q, %d", n, s, e)
		}
	}
}

func TestCheckValid(t *testing.T) { // P11.1
	for what, m := range valids() {
		before := deep(m)
		is(t, what, manifest.Check(m), api.OK)
		if !alike(m, before) {
			t.Errorf("%s: changed to %v", what, m)
		}
	}
}

// checks tells if Check answers another error to small, altered.
func checks(t *testing.T, what string, want api.Errno, alter func(m *api.Manifest)) {
	t.Helper()
	m := small()
	alter(&m)
	is(t, what, manifest.Check(m), want)
	if b, e := manifest.Bytes(m); e != want || (len(b) == 0) != (want != api.OK) {
		t.Errorf("%s: Bytes: %d bytes, %d, want %d", what, len(b), e, want)
	}
}

// TestCheckNumbers: each number at its limits, and beyond them.
func TestCheckNumbers(t *testing.T) { // P11.1
	for what, c := range map[string]struct {
		most int
		of   func(m *api.Manifest) *int
	}{
		"Segment": {1<<31 - 1, func(m *api.Manifest) *int { return &m.Segment }},
		"At":      {1 << 20, func(m *api.Manifest) *int { return &m.At }},
		"Batches": {1 << 53, func(m *api.Manifest) *int { return &m.Batches }},
		"Events":  {1 << 53, func(m *api.Manifest) *int { return &m.Events }},
	} {
		for _, n := range []int{0, 1, c.most - 1, c.most} {
			checks(t, what, api.OK, func(m *api.Manifest) { *c.of(m) = n })
		}
		for _, n := range []int{-1, math.MinInt, c.most + 1, math.MaxInt} {
			checks(t, what, api.ErrManifest, func(m *api.Manifest) { *c.of(m) = n })
		}
	}
	for n, want := range map[int]api.Errno{0: api.OK, 1: api.OK, 1<<31 - 1: api.OK, 1 << 31: api.ErrManifest, math.MaxInt: api.ErrManifest, -1: api.ErrManifest, math.MinInt: api.ErrManifest} {
		checks(t, "Next", want, func(m *api.Manifest) { m.Rels, m.Next = nil, n })
	}
	for n, want := range map[int]api.Errno{65535: api.OK, 65536: api.OK, 65537: api.ErrManifest} {
		checks(t, "Program", want, func(m *api.Manifest) { m.Program = strings.Repeat("x", n) })
	}
	checks(t, "Program of runes", api.ErrManifest, func(m *api.Manifest) { m.Program = strings.Repeat("é", 32769) })
}

// TestCheckRels: the names of relations, and how many there are.
func TestCheckRels(t *testing.T) { // P11.1
	long := strings.Repeat("n", 64)
	for what, names := range map[string][]string{
		"none":              nil,
		"a byte":            {"a"},
		"bytes":             {"\x00", "\x00\x00", " ", "A", "a", "aa", "b", "\x7f", "\x80", "\xff"},
		"64 bytes":          {long},
		"64 bytes, all but": {long[1:], long},
	} {
		checks(t, what, api.OK, func(m *api.Manifest) { m.Rels = named(names...) })
	}
	for what, names := range map[string][]string{
		"empty":            {""},
		"empty, first":     {"", "a"},
		"empty, last":      {"a", ""},
		"65 bytes":         {long + "n"},
		"65 bytes, last":   {"a", long + "n"},
		"66 bytes, 33":     {strings.Repeat("é", 33)},
		"equal":            {"a", "a"},
		"equal, last":      {"a", "b", "b"},
		"falling":          {"b", "a"},
		"falling, last":    {"a", "c", "b"},
		"falling, first":   {"b", "a", "c"},
		"a prefix, last":   {"aa", "a"},
		"bytes, unsigned":  {"\x80", "a"},
		"great is less":    {"a", "B"},
		"equal, not next":  {"a", "b", "a"},
		"two empty":        {"", ""},
		"two of 65, alike": {long + "n", long + "n"},
	} {
		checks(t, what, api.ErrManifest, func(m *api.Manifest) { m.Rels = named(names...) })
	}
	checks(t, "127 relations", api.OK, func(m *api.Manifest) { m.Rels = named(many(127)...) })
	checks(t, "128 relations", api.OK, func(m *api.Manifest) { m.Rels = named(many(128)...) })
	checks(t, "129 relations", api.ErrManifest, func(m *api.Manifest) { m.Rels = named(many(129)...) })
}

// named are relations without runs.
func named(names ...string) []api.ManRel {
	var l []api.ManRel
	for _, name := range names {
		l = append(l, rel(name))
	}
	return l
}

// many are so many names, rising.
func many(n int) []string {
	var l []string
	for i := range n {
		l = append(l, "r"+string([]byte{byte(i)}))
	}
	return l
}

// TestCheckRuns: the runs of relations, and how many there are. Next is 200.
func TestCheckRuns(t *testing.T) { // P11.1
	for what, l := range map[string][]api.ManRel{
		"the last":       {rel("a", 199)},
		"the first":      {rel("a", 0)},
		"in any order":   {rel("a", 5, 3, 4), rel("b", 1, 0)},
		"64 runs":        {rel("a", upTo(64)...)},
		"64 runs, twice": {rel("a", upTo(64)...), rel("b", upTo(128)[64:]...)},
	} {
		checks(t, what, api.OK, func(m *api.Manifest) { m.Rels = l })
	}
	for what, l := range map[string][]api.ManRel{
		"Next":               {rel("a", 200)},
		"Next, last":         {rel("a", 1, 2, 200)},
		"Next, of the last":  {rel("a", 1), rel("b", 200)},
		"one past Next":      {rel("a", 201)},
		"twice":              {rel("a", 1, 1)},
		"twice, not next":    {rel("a", 1, 2, 1)},
		"twice, of two":      {rel("a", 1), rel("b", 1)},
		"twice, of far ones": {rel("a", 1, 2), rel("b"), rel("c", 3, 2)},
		"65 runs":            {rel("a", upTo(65)...)},
		"65 runs, last":      {rel("a"), rel("b", upTo(65)...)},
	} {
		checks(t, what, api.ErrManifest, func(m *api.Manifest) { m.Rels = l })
	}
	for _, name := range noNames("run.") {
		checks(t, name, api.ErrManifest, func(m *api.Manifest) { m.Rels[0].Runs = append(m.Rels[0].Runs, name) })
		checks(t, name+", alone", api.ErrManifest, func(m *api.Manifest) { m.Rels = []api.ManRel{{Name: "a", Runs: []string{name}}} })
	}
	for next, want := range map[int]api.Errno{128: api.ErrManifest, 129: api.OK, 0: api.ErrManifest, -1: api.ErrManifest} {
		checks(t, "Next", want, func(m *api.Manifest) { m.Next = next })
	}
	checks(t, "the last of all", api.OK, func(m *api.Manifest) { m.Next, m.Rels = 2147483647, []api.ManRel{rel("a", 2147483646)} })
	checks(t, "one past it", api.ErrManifest, func(m *api.Manifest) { m.Next, m.Rels = 2147483647, []api.ManRel{rel("a", 2147483647)} })
}

// upTo are the numbers below n.
func upTo(n int) []int {
	var l []int
	for i := range n {
		l = append(l, i)
	}
	return l
}

// noNames are names that no number has behind the prefix, though some look so.
func noNames(prefix string) []string {
	l := []string{"", ".", "0", "5", "run", "journal", "run5", "other", "manifest", "manifest.", "manifest.0", "RUN.0", "Journal.0", "un.0", "x" + prefix + "0", " " + prefix + "0", prefix + prefix + "0", "\x00", "run,0", "run.0.", "run.0.0", "run.run.0", "journal.mark"}
	for _, digits := range []string{"", "00", "01", "007", "+0", "+5", "-0", "-1", "-5", " 5", "5 ", "5\n", "\n5", "5.", "5.0", "1e1", "0x5", "0b1", "0o7", "1_0", "5a", "a5", "x", "５", "٥", "5\x00", "\xff", "2147483648", "2147483650", "4294967296", "4294967301", "9223372036854775807", "9223372036854775808", "18446744073709551616", "18446744073709551621", "02147483647", strings.Repeat("9", 60)} {
		l = append(l, prefix+digits)
	}
	return l
}

func TestSame(t *testing.T) { // P11.1
	alters := map[string]func(m *api.Manifest){
		"Program":            func(m *api.Manifest) { m.Program += " " },
		"Segment":            func(m *api.Manifest) { m.Segment++ },
		"At":                 func(m *api.Manifest) { m.At++ },
		"Batches":            func(m *api.Manifest) { m.Batches++ },
		"Events":             func(m *api.Manifest) { m.Events++ },
		"Next":               func(m *api.Manifest) { m.Next++ },
		"no Rels":            func(m *api.Manifest) { m.Rels = nil },
		"one less":           func(m *api.Manifest) { m.Rels = m.Rels[:2] },
		"one more":           func(m *api.Manifest) { m.Rels = append(m.Rels, rel("h")) },
		"a name":             func(m *api.Manifest) { m.Rels[0].Name = "E" },
		"the last name":      func(m *api.Manifest) { m.Rels[2].Name = "h" },
		"a run less":         func(m *api.Manifest) { m.Rels[0].Runs = m.Rels[0].Runs[:1] },
		"a run more":         func(m *api.Manifest) { m.Rels[1].Runs = []string{"run.1"} },
		"the first run":      func(m *api.Manifest) { m.Rels[0].Runs[0] = "run.1" },
		"the last run":       func(m *api.Manifest) { m.Rels[2].Runs[0] = "run.00" },
		"runs in turn":       func(m *api.Manifest) { slices.Reverse(m.Rels[0].Runs) },
		"relations in turn":  func(m *api.Manifest) { slices.Reverse(m.Rels) },
		"runs of another":    func(m *api.Manifest) { m.Rels[1].Runs, m.Rels[2].Runs = m.Rels[2].Runs, nil },
		"an empty run":       func(m *api.Manifest) { m.Rels[1].Runs = []string{""} },
		"a number less":      func(m *api.Manifest) { m.Segment = -1 },
		"numbers in turn":    func(m *api.Manifest) { m.Batches, m.Events = m.Events, m.Batches },
		"Segment for Next":   func(m *api.Manifest) { m.Segment, m.Next = m.Next, m.Segment },
		"a relation, doubly": func(m *api.Manifest) { m.Rels = slices.Insert(m.Rels, 1, rel("e", 0, 128)) },
	}
	for what, alter := range alters {
		m := small()
		alter(&m)
		if manifest.Same(small(), m) || manifest.Same(m, small()) {
			t.Errorf("%s: the same", what)
		}
		if !manifest.Same(m, deep(m)) {
			t.Errorf("%s: not the same as itself", what)
		}
	}
	for what, m := range valids() {
		for with, x := range valids() {
			if manifest.Same(m, x) != (what == with) {
				t.Errorf("%s, %s: %t", what, with, what != with)
			}
		}
	}
}

// TestSameNil: nil and empty slices are the same.
func TestSameNil(t *testing.T) { // P11.1
	if a, b := (api.Manifest{}), (api.Manifest{Rels: []api.ManRel{}}); !manifest.Same(a, b) || !manifest.Same(b, a) {
		t.Error("no relations")
	}
	a, b := small(), small()
	a.Rels[1].Runs, b.Rels[1].Runs = nil, []string{}
	if !manifest.Same(a, b) || !manifest.Same(b, a) {
		t.Error("no runs")
	}
	is(t, "Check", manifest.Check(b), api.OK)
	x, e := manifest.Bytes(a)
	y, f := manifest.Bytes(b)
	if string(x) != string(y) || e != api.OK || f != api.OK {
		t.Errorf("Bytes: % x, %d, % x, %d", x, e, y, f)
	}
	is(t, "no relations", manifest.Check(api.Manifest{Rels: []api.ManRel{}}), api.OK)
}
