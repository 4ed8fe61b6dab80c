package value

import (
	"math"
	"math/rand"
	"regexp"
	"slices"
	"strconv"
	"strings"
	"testing"

	"pedigree/api"
)

func num(n int64) api.Value { return api.Value{Kind: api.VInt, N: n} }

func sym(s string) api.Value { return api.Value{Kind: api.VSym, S: s} }

// valids are values that may be, rising.
func valids() []api.Value {
	return []api.Value{
		num(math.MinInt64), num(-10), num(-9), num(-1), num(0), num(1), num(5), num(9), num(10), num(math.MaxInt64),
		sym(""), sym("\x00"), sym("\x00\x00"), sym("\t"), sym("\n"), sym("\r"), sym(" "), sym("\""), sym("\"a"), sym("-1"),
		sym("0"), sym("10"), sym("3"), sym("A"), sym("\\"), sym("\\n"), sym("\\x41"), sym("a"), sym("a\n\""), sym("aa"), sym("ab"), sym("b"),
		sym(strings.Repeat("m", api.MaxSym-1)), sym(strings.Repeat("m", api.MaxSym)),
		sym("~"), sym("\x7f"), sym("\x80"), sym("é"), sym("\xff"), sym("\xff\x00"), sym(strings.Repeat("\xff", api.MaxSym)),
	}
}

// invalids are values that may not be, rising among themselves.
func invalids() []api.Value {
	return []api.Value{
		{Kind: math.MinInt, N: 1},
		{Kind: -1},
		{},
		{N: 5},
		{N: 5, S: "a"},
		{Kind: api.VInt, N: -1, S: "b"},
		{Kind: api.VInt, N: 0, S: "\x00"},
		{Kind: api.VInt, N: 0, S: "a"},
		{Kind: api.VInt, N: 1, S: "a"},
		{Kind: api.VSym, N: math.MinInt64, S: "z"},
		{Kind: api.VSym, N: -1},
		{Kind: api.VSym, S: strings.Repeat("m", api.MaxSym+1)},
		{Kind: api.VSym, N: 1},
		{Kind: api.VSym, N: 1, S: "a"},
		{Kind: 3},
		{Kind: 3, N: 1, S: "a"},
		{Kind: math.MaxInt},
	}
}

// every are all of them, those that may not be among those that may.
func every() []api.Value { return append(valids(), invalids()...) }

func TestCheckAndType(t *testing.T) { // P1.1
	for _, v := range valids() {
		want := api.TSym
		if v.Kind == api.VInt {
			want = api.TInt
		}
		if e := Check(v); e != api.OK {
			t.Errorf("Check(%#v) = %d", v, e)
		}
		if k, e := Type(v); k != want || e != api.OK {
			t.Errorf("Type(%#v) = %d, %d", v, k, e)
		}
	}
	for _, v := range invalids() {
		if e := Check(v); e != api.ErrValue {
			t.Errorf("Check(%#v) = %d", v, e)
		}
		if k, e := Type(v); k != 0 || e != api.ErrValue {
			t.Errorf("Type(%#v) = %d, %d", v, k, e)
		}
	}
}

func TestText(t *testing.T) { // P1.1
	for _, c := range []struct {
		v    api.Value
		text string
	}{
		{num(0), "0"},
		{num(7), "7"},
		{num(-120), "-120"},
		{num(math.MaxInt64), "9223372036854775807"},
		{num(math.MinInt64), "-9223372036854775808"},
		{sym(""), `""`},
		{sym("007"), `"007"`},
		{sym("a\n\""), `"a\n\""`},
		{sym(`\`), `"\\"`},
		{sym(`\x41`), `"\\x41"`},
		{sym("\t \r"), `"\t \x0d"`},
		{sym("\x00\x1f ~\x7f\x80\xff"), `"\x00\x1f ~\x7f\x80\xff"`},
		{sym("é'`"), "\"\\xc3\\xa9'`\""},
		{sym(strings.Repeat("\xab", api.MaxSym)), `"` + strings.Repeat(`\xab`, api.MaxSym) + `"`},
	} {
		if s, e := Text(c.v); s != c.text || e != api.OK {
			t.Errorf("Text(%#v) = %q, %d, not %q", c.v, s, e, c.text)
		}
	}
	for _, v := range invalids() {
		if s, e := Text(v); s != "" || e != api.ErrValue {
			t.Errorf("Text(%#v) = %q, %d", v, s, e)
		}
	}
}

func TestTextOfEachByte(t *testing.T) { // P1.1
	for i := range 256 {
		c := byte(i)
		want := "\\x" + strconv.FormatInt(256+int64(i), 16)[1:]
		switch {
		case c == '\n':
			want = `\n`
		case c == '\t':
			want = `\t`
		case c == '"' || c == '\\':
			want = `\` + string(rune(c))
		case c >= 32 && c <= 126:
			want = string(rune(c))
		}
		if s, e := Text(sym(string([]byte{c}))); s != `"`+want+`"` || e != api.OK {
			t.Errorf("Text of byte %d = %q, %d", i, s, e)
		}
	}
}

func TestCompare(t *testing.T) { // P1.2
	for _, l := range [][]api.Value{valids(), invalids()} {
		for i, a := range l {
			for j, b := range l {
				want := 0
				if i < j {
					want = -1
				} else if i > j {
					want = 1
				}
				if c := Compare(a, b); c != want {
					t.Errorf("Compare(%#v, %#v) = %d", a, b, c)
				}
			}
		}
	}
	for _, c := range [][2]api.Value{ // less, greater
		{num(5), sym("3")},
		{num(math.MinInt64), num(math.MaxInt64)},
		{{Kind: api.VInt, N: 1, S: "b"}, {Kind: api.VInt, N: 2, S: "a"}},
		{{Kind: api.VSym, N: -1, S: "b"}, sym("a")},
		{{Kind: api.VInt, N: 9, S: "z"}, sym("")},
		{num(0), {Kind: api.VInt, S: "a"}},
		{{N: 9, S: "z"}, num(-9)},
	} {
		if Compare(c[0], c[1]) != -1 || Compare(c[1], c[0]) != 1 {
			t.Errorf("%#v is not less than %#v", c[0], c[1])
		}
	}
}

func TestHolds(t *testing.T) { // P1.2
	for _, c := range []struct {
		a, b api.Value
		want [6]bool // = != < <= > >=
	}{
		{num(1), num(2), [6]bool{false, true, true, true, false, false}},
		{num(2), num(2), [6]bool{true, false, false, true, false, true}},
		{num(2), num(-2), [6]bool{false, true, false, false, true, true}},
		{num(9), sym("1"), [6]bool{false, true, true, true, false, false}},
		{sym("b"), sym("ab"), [6]bool{false, true, false, false, true, true}},
		{sym("b"), sym("b"), [6]bool{true, false, false, true, false, true}},
		{api.Value{}, api.Value{Kind: 3}, [6]bool{false, true, true, true, false, false}},
		{api.Value{N: 4}, api.Value{N: 4}, [6]bool{true, false, false, true, false, true}},
	} {
		for i, op := range []api.CmpOp{api.CEq, api.CNe, api.CLt, api.CLe, api.CGt, api.CGe} {
			if is, e := Holds(op, c.a, c.b); is != c.want[i] || e != api.OK {
				t.Errorf("Holds(%d, %#v, %#v) = %v, %d", op, c.a, c.b, is, e)
			}
		}
	}
	for _, op := range []api.CmpOp{0, -1, 7, math.MinInt, math.MaxInt} {
		if is, e := Holds(op, num(1), num(1)); is || e != api.ErrArg {
			t.Errorf("Holds(%d) = %v, %d", op, is, e)
		}
	}
}

func TestRead(t *testing.T) { // P1.3
	for s, v := range map[string]api.Value{
		"0": num(0), "12": num(12), "-7": num(-7), "9223372036854775807": num(math.MaxInt64), "-9223372036854775808": num(math.MinInt64),
		`""`: sym(""), `"0"`: sym("0"), `"a\n\""`: sym("a\n\""), `"\\x41"`: sym(`\x41`), `"\x00\xff"`: sym("\x00\xff"), `"\t\\"`: sym("\t\\"),
		`"` + strings.Repeat("a", api.MaxSym) + `"`:    sym(strings.Repeat("a", api.MaxSym)),
		`"` + strings.Repeat(`\x01`, api.MaxSym) + `"`: sym(strings.Repeat("\x01", api.MaxSym)),
	} {
		if x, e := Read(s); x != v || e != api.OK {
			t.Errorf("Read(%q) = %#v, %d", s, x, e)
		}
	}
	for _, s := range []string{
		"", "007", "00", "-0", "-00", "-", "+1", "--1", "1_000", "0x1", "1.0", "1e3", " 1", "1 ", "1\n", "a", "\u0663",
		"9223372036854775808", "-9223372036854775809", "18446744073709551616", strings.Repeat("9", 100000), strings.Repeat("0", 100000),
		`"`, `"a`, `a"`, `"a"b`, `"a"b"`, `"""`, `"\"`, `"\\\"`, `"\`, ` "a"`, `"a" `, `'a'`, "`a`", `""""`,
		`"\x41"`, `"\x0A"`, `"\x0a"`, `"\x09"`, `"\x22"`, `"\x5c"`, `"\xFF"`, `"\x7F"`, `"\xf"`, `"\x"`, `"\x0"`, `"\xg0"`, `"\x+1"`, `"\x_1"`, `"\X00"`,
		`"\r"`, `"\a"`, `"\0"`, `"\'"`, `"\u00e9"`, `"\ "`, "\"\n\"", "\"\t\"", "\"\x00\"", "\"\x7f\"", "\"\x80\"", "\"é\"", "\"\\\x00\"",
		`"` + strings.Repeat("a", api.MaxSym+1) + `"`, `"` + strings.Repeat(`\x01`, api.MaxSym+1) + `"`, `"` + strings.Repeat("a", 1<<20) + `"`,
	} {
		if x, e := Read(s); x != (api.Value{}) || e != api.ErrValue {
			t.Errorf("Read(%.40q) = %#v, %d", s, x, e)
		}
	}
}

// TestReadOfShortTexts goes through all texts of some bytes: a text is one just if the pattern says so.
func TestReadOfShortTexts(t *testing.T) { // P1.3, P1.6
	is := regexp.MustCompile(`\A(0|-?[1-9][0-9]*|"([ !#-\[\]-~]|\\["\\nt]|\\x(0[0-8b-f]|1[0-9a-f]|7f|[89a-f][0-9a-f]))*")\z`)
	letters := []byte{'"', '\\', 'x', 'n', '0', '1', '7', 'f', '-', 'A', '\n', 0xc3}
	var step func(s []byte, left int)
	step = func(s []byte, left int) {
		v, e := Read(string(s))
		if want := is.Match(s); want != (e == api.OK) {
			t.Fatalf("Read(%q) = %#v, %d", s, v, e)
		}
		if text, f := Text(v); e == api.OK && (f != api.OK || text != string(s)) {
			t.Fatalf("Read(%q) = %#v, whose text is %q, %d", s, v, text, f)
		}
		if left > 0 {
			for _, c := range letters {
				step(append(s, c), left-1)
			}
		}
	}
	step(make([]byte, 0, 8), 4)
	for _, c := range letters {
		for _, d := range letters {
			for _, f := range letters { // the escapes of six bytes
				step([]byte{'"', '\\', c, d, f, '"'}, 0)
			}
		}
	}
}

func TestSorted(t *testing.T) { // P1.4
	if l := Sorted(); len(l) != 0 {
		t.Errorf("Sorted() = %#v", l)
	}
	if l := Sorted(num(1)); !slices.Equal(l, []api.Value{num(1)}) {
		t.Errorf("Sorted = %#v", l)
	}
	if l := Sorted(sym("b"), num(2), api.Value{Kind: 3}, sym("a"), num(2), api.Value{}, sym("b"), num(-2), api.Value{}); !slices.Equal(l,
		[]api.Value{{}, num(-2), num(2), sym("a"), sym("b"), {Kind: 3}}) {
		t.Errorf("Sorted = %#v", l)
	}
	r := rand.New(rand.NewSource(1))
	for _, want := range [][]api.Value{valids(), invalids()} {
		l := slices.Concat(want, want, want[:len(want)/2])
		r.Shuffle(len(l), func(i, j int) { l[i], l[j] = l[j], l[i] })
		if got := Sorted(l...); !slices.Equal(got, want) {
			t.Errorf("Sorted(%#v) = %#v", l, got)
		}
	}
}

func TestSortedLeavesItsArguments(t *testing.T) { // P1.4, rule 4
	for _, l := range [][]api.Value{{num(3), num(1), num(3), num(2)}, {num(1), num(2), num(3)}, {num(1)}} {
		was := slices.Clone(l)
		out := Sorted(l...)
		clear(out[:cap(out)])
		if !slices.Equal(l, was) {
			t.Errorf("Sorted made %#v of %#v", l, was)
		}
	}
	whole := []api.Value{num(2), num(1), num(9)}
	Sorted(whole[:2]...)
	if !slices.Equal(whole, []api.Value{num(2), num(1), num(9)}) {
		t.Errorf("Sorted made %#v of its row", whole)
	}
}

func TestPlace(t *testing.T) { // P1.4
	for _, c := range []struct {
		l     []api.Value
		v     api.Value
		n     int
		there bool
	}{
		{nil, num(1), 0, false},
		{[]api.Value{num(1), num(3), sym("a")}, num(0), 0, false},
		{[]api.Value{num(1), num(3), sym("a")}, num(1), 0, true},
		{[]api.Value{num(1), num(3), sym("a")}, num(2), 1, false},
		{[]api.Value{num(1), num(3), sym("a")}, sym("a"), 2, true},
		{[]api.Value{num(1), num(3), sym("a")}, sym("b"), 3, false},
		{[]api.Value{sym("a"), num(1), num(7), num(1), num(3)}, num(3), 2, true}, // does not rise, has one twice
		{[]api.Value{num(9), num(1), num(8)}, num(8), 1, true},
		{[]api.Value{num(9), num(1), num(8)}, num(2), 1, false},
		{[]api.Value{num(2), num(2), num(2)}, num(2), 0, true},
		{[]api.Value{num(2), num(2), num(2)}, num(3), 3, false},
		{[]api.Value{{Kind: 3}, {}, num(1)}, api.Value{Kind: 3}, 2, true},
	} {
		if n, there := Place(c.l, c.v); n != c.n || there != c.there {
			t.Errorf("Place(%#v, %#v) = %d, %v", c.l, c.v, n, there)
		}
	}
	for _, l := range [][]api.Value{valids(), invalids()} {
		for i, v := range l {
			if n, there := Place(l, v); n != i || !there {
				t.Errorf("Place(%#v) = %d, %v, not %d", v, n, there, i)
			}
		}
	}
}

func TestOrderIsTotal(t *testing.T) { // P1.5
	l := every()
	for _, a := range l {
		for _, b := range l {
			if c := Compare(a, b); c != -Compare(b, a) || (c == 0) != (a == b) || c < -1 || c > 1 {
				t.Fatalf("Compare(%#v, %#v) = %d", a, b, c)
			}
			for _, x := range l {
				if Compare(a, b) <= 0 && Compare(b, x) <= 0 && Compare(a, x) > 0 {
					t.Fatalf("%#v, %#v, %#v are in a ring", a, b, x)
				}
			}
		}
	}
}

func TestRoundTrip(t *testing.T) { // P1.6
	l := valids()
	r := rand.New(rand.NewSource(2))
	for range 3000 {
		b := make([]byte, r.Intn(api.MaxSym+1))
		r.Read(b)
		l = append(l, sym(string(b)), num(int64(r.Uint64())>>r.Intn(64)))
	}
	of := map[string]api.Value{}
	for _, v := range l {
		s, e := Text(v)
		if e != api.OK {
			t.Fatalf("Text(%#v): %d", v, e)
		}
		if x, e := Read(s); x != v || e != api.OK {
			t.Fatalf("Read(%q) = %#v, %d, not %#v", s, x, e, v)
		}
		if x, there := of[s]; there && x != v {
			t.Fatalf("%#v and %#v have the text %q", x, v, s)
		}
		of[s] = v
	}
}

func TestTrichotomy(t *testing.T) { // P1.7
	holds := func(op api.CmpOp, a, b api.Value) int {
		is, e := Holds(op, a, b)
		if e != api.OK {
			t.Fatalf("Holds(%d, %#v, %#v): %d", op, a, b, e)
		}
		if is {
			return 1
		}
		return 0
	}
	for _, a := range every() {
		for _, b := range every() {
			if holds(api.CLt, a, b)+holds(api.CEq, a, b)+holds(api.CGt, a, b) != 1 {
				t.Fatalf("%#v, %#v: not just one holds", a, b)
			}
			for _, op := range [][2]api.CmpOp{{api.CNe, api.CEq}, {api.CGe, api.CLt}, {api.CLe, api.CGt}} {
				if holds(op[0], a, b)+holds(op[1], a, b) != 1 {
					t.Fatalf("%#v, %#v: %d is not the negation of %d", a, b, op[0], op[1])
				}
			}
		}
	}
}
