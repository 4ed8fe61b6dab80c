package tuple_test

import (
	"math"
	"math/rand"
	"regexp"
	"strings"
	"testing"

	"pedigree/api"
	"pedigree/tuple"
)

// texts are tuples with their texts.
func texts() map[string]api.Tuple {
	return map[string]api.Tuple{
		`()`:        {},
		`(0)`:       nums(0),
		`(-7)`:      nums(-7),
		`(1, 2, 3)`: nums(1, 2, 3),
		`(-9223372036854775808, 9223372036854775807)`: nums(math.MinInt64, math.MaxInt64),
		`(1, 1, 1, 1, 1, 1, 1, 1)`:                    ones(8),
		`("")`:                                        {sym("")},
		`("", "")`:                                    {sym(""), sym("")},
		`("1, 2", 3)`:                                 {sym("1, 2"), num(3)},
		`(1, "a)\"")`:                                 {num(1), sym("a)\"")},
		`(")", "(", ",", ", ", "()")`:                 {sym(")"), sym("("), sym(","), sym(", "), sym("()")},
		`("\\", "\\\"", "\"")`:                        {sym(`\`), sym(`\"`), sym(`"`)},
		`("a\n\"", -1)`:                               {sym("a\n\""), num(-1)},
		`("\\, ", "\", \"")`:                          {sym(`\, `), sym(`", "`)},
		`("\t\x00\x7f\xff~ ", "\xc3\xa9")`:            {sym("\t\x00\x7f\xff~ "), sym("é")},
		`("` + strings.Repeat("a", api.MaxSym) + `")`: {sym(strings.Repeat("a", api.MaxSym))},
		"(" + strings.Repeat(`"`+strings.Repeat(`\xff`, api.MaxSym)+`", `, 7) + "0)": append(
			longSyms("\xff"), num(0)),
	}
}

// longSyms are seven symbols, each as long as may be.
func longSyms(c string) api.Tuple {
	var t api.Tuple
	for range api.MaxArity - 1 {
		t = append(t, sym(strings.Repeat(c, api.MaxSym)))
	}
	return t
}

func TestText(t *testing.T) { // P2.2
	for text, x := range texts() {
		if s, e := tuple.Text(x); s != text || e != api.OK {
			t.Errorf("Text(%v) = %q, %d, not %q", x, s, e, text)
		}
	}
	if s, e := tuple.Text(nil); s != "()" || e != api.OK {
		t.Errorf("Text(nil) = %q, %d", s, e)
	}
	for _, x := range append(wrongs(), make(api.Tuple, 9), ones(9)) {
		if s, e := tuple.Text(x); s != "" || e != api.ErrTuple {
			t.Errorf("Text(%v) = %q, %d", x, s, e)
		}
	}
	for _, bad := range bads() {
		for i := range 3 {
			x := ones(3)
			x[i] = bad
			if s, e := tuple.Text(x); s != "" || e != api.ErrTuple {
				t.Errorf("Text(%v) = %q, %d", x, s, e)
			}
		}
	}
}

func TestRead(t *testing.T) { // P2.2
	for text, x := range texts() {
		if y, e := tuple.Read(text); !same(x, y) || e != api.OK {
			t.Errorf("Read(%q) = %v, %d, not %v", text, y, e, x)
		}
	}
	for _, s := range []string{
		"", " ", "(", ")", ")(", "((", "))", "( )", "(())", "()()", "() ", " ()", "()\n", "(", "[]", "[1]", "{}", "<1>",
		"1", "1, 2", `"a"`, "(1", "1)", "((1)", "(1))", "((1))", "( 1)", "(1 )", "(1) ", " (1)", "(1)(2)", "(1), (2)", "(1)\n", "(\n1)",
		"(1,2)", "(1 ,2)", "(1 , 2)", "(1,  2)", "(1,\t2)", "(1,\n2)", "(1;2)", "(1 2)", "(1, 2,)", "(1, 2, )", "(1,)", "(1, )", "(, 1)", "(,1)", "(,)", "(, )", "(1, , 2)", "(1,, 2)",
		"(01)", "(-0)", "(+1)", "(1.0)", "(1, 02)", "(x)", "(X)", "(_)", "(-)", "(1, a)", "(9223372036854775808)", "(1, -9223372036854775809)",
		`(")`, `(")"`, `("a)`, `("a", "b)`, `(a")`, `("a"b)`, `("a""b")`, `("a" "b")`, `("a","b")`, `("a",)`, `("a", )`, `("a"), `, `("a"1)`, `(1"a")`, `("\")`, `("\\\")`, `("a\"`, `("a\`,
		`("\x41")`, `("\x0a")`, `("\xFF")`, `("\r")`, `("\u0041")`, "(\"\n\")", "(\"\x80\")", "(\"é\")", `('a')`, `(\"a\")`, `(1\, 2)`, `(\1)`, `("a"\, 1)`,
		"(1, 1, 1, 1, 1, 1, 1, 1, 1)", "(1, 1, 1, 1, 1, 1, 1, 1, )", "(1, 1, 1, 1, 1, 1, 1, 1,)", "(1, 1, 1, 1, 1, 1, 1, 1, x)",
		`("` + strings.Repeat("a", api.MaxSym+1) + `")`, `(1, "` + strings.Repeat(`\x00`, api.MaxSym+1) + `")`,
		"(" + strings.Repeat("1, ", 300000) + "1)", strings.Repeat("(", 1000000), "(" + strings.Repeat(" ", 1000000) + ")",
		"(" + strings.Repeat("9", 1000000) + ")", `("` + strings.Repeat(`\"`, 500000) + `")`, "(" + strings.Repeat(`"`, 1000001) + ")",
	} {
		if x, e := tuple.Read(s); len(x) != 0 || e != api.ErrTuple {
			t.Errorf("Read(%.60q) = %v, %d", s, x, e)
		}
	}
}

// TestReadOfShortTexts goes through all texts of some bytes: a text is one just if the pattern says so.
func TestReadOfShortTexts(t *testing.T) { // P2.2, P2.8
	const val = `(0|-?[1-9][0-9]*|"([ !#-\[\]-~]|\\["\\nt]|\\x(0[0-8b-f]|1[0-9a-f]|7f|[89a-f][0-9a-f]))*")`
	is := regexp.MustCompile(`\A\((` + val + `(, ` + val + `){0,7})?\)\z`)
	letters := []byte(`,() "\10-n`)
	try := func(s string) {
		x, e := tuple.Read(s)
		if want := is.MatchString(s); want != (e == api.OK) {
			t.Fatalf("Read(%q) = %v, %d", s, x, e)
		}
		if text, f := tuple.Text(x); e == api.OK && (f != api.OK || text != s) {
			t.Fatalf("Read(%q) = %v, whose text is %q, %d", s, x, text, f)
		}
	}
	var step func(s []byte, left int)
	step = func(s []byte, left int) {
		try(string(s))
		try("(" + string(s) + ")")
		try(`("` + string(s) + `")`)
		if left > 0 {
			for _, c := range letters {
				step(append(s, c), left-1)
			}
		}
	}
	step(make([]byte, 0, 8), 5)
}

func TestRoundTrip(t *testing.T) { // P2.8
	l := goods()
	r := rand.New(rand.NewSource(4))
	for range 3000 {
		x := api.Tuple{}
		for range r.Intn(api.MaxArity + 1) {
			b := make([]byte, r.Intn(5))
			for i := range b {
				b[i] = `", ()\xn1a`[r.Intn(10)]
			}
			x = append(x, []api.Value{num(int64(r.Uint64()) >> r.Intn(64)), sym(string(b))}[r.Intn(2)])
		}
		l = append(l, x)
	}
	of := map[string]api.Tuple{}
	for _, x := range l {
		s, e := tuple.Text(x)
		if e != api.OK {
			t.Fatalf("Text(%v): %d", x, e)
		}
		if y, e := tuple.Read(s); !same(x, y) || e != api.OK {
			t.Fatalf("Read(%q) = %v, %d, not %v", s, y, e, x)
		}
		if y, there := of[s]; there && !same(x, y) {
			t.Fatalf("%v and %v have the text %q", x, y, s)
		}
		of[s] = x
	}
}
