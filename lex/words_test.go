package lex_test

import (
	"math"
	"math/rand"
	"slices"
	"strconv"
	"strings"
	"testing"

	"pedigree/api"
	"pedigree/lex"
)

// P12.1: Words.

func TestWordsExample(t *testing.T) { // P12.1
	l := []api.Word{
		name(0, "p"), mark(1, "("), variable(2, "X"), mark(3, ")"), mark(4, ":-"), name(6, "q"), mark(7, "("), variable(8, "X"),
		mark(9, ","), anything(10), mark(11, ")"), mark(12, ","), variable(13, "X"), mark(14, "!="), num(16, -3), mark(18, "."),
	}
	if len(l) != 16 {
		t.Fatal(len(l))
	}
	has(t, "p(X):-q(X,_),X!=-3.", l...)
}

func TestFaultsExamples(t *testing.T) { // P12.1
	fails(t, "007", 0)
	fails(t, "a ?", 2)
	fails(t, "_a", 0)
}

func TestNothing(t *testing.T) { // P12.1
	for _, s := range []string{"", " ", "\n", "\t", "\r", " \t\r\n ", "%", "%%", "% p(X).", "%\n", "% a\n% b\n", " % a\n \t% b", "\n%\xff\x00\n"} {
		has(t, s)
	}
}

// TestFaultsOffsets: an error is at the first byte of what is no valid token, behind all that are.
func TestFaultsOffsets(t *testing.T) { // P12.1
	for s, at := range map[string]int{
		"?": 0, "a?": 1, "a\n?": 2, "? ?": 0, "p(X) 007": 5, "p(X)007": 4, "1 _a": 2, "1_a": 1, "_ _ __": 4, "% ?\n?": 4, "%\n\x00": 2,
		"a \"b": 2, "a \"b\nc\"": 2, `"a" "\q" ?`: 4, "X:-!Y": 3, "a ! =": 2, "a!": 1, "- -0": 2, "a 9223372036854775808 ?": 2, "p(é)": 2,
	} {
		fails(t, s, at)
	}
}

// TestFirstBytes: every byte as a whole text, and as the first of one.
func TestFirstBytes(t *testing.T) { // P12.1
	for i := range 256 {
		c := string([]byte{byte(i)})
		switch {
		case strings.Contains(" \t\n\r", c):
			has(t, c)
			has(t, c+"a", name(1, "a"))
		case c == "%":
			has(t, c)
			has(t, c+"a")
		case i >= 'a' && i <= 'z':
			has(t, c, name(0, c))
			has(t, c+"a", name(0, c+"a"))
		case i >= 'A' && i <= 'Z':
			has(t, c, variable(0, c))
			has(t, c+"a", variable(0, c+"a"))
		case i >= '0' && i <= '9':
			has(t, c, num(0, int64(i-'0')))
			has(t, c+"a", num(0, int64(i-'0')), name(1, "a"))
		case c == "_":
			has(t, c, anything(0))
			fails(t, c+"a", 0)
		case strings.Contains("(),.:<>+=-", c):
			has(t, c, mark(0, c))
			has(t, c+"a", mark(0, c), name(1, "a"))
		default: // " and ! among them, which are no tokens alone
			fails(t, c, 0)
			fails(t, c+"a", 0)
		}
	}
}

// TestBytesBehindTokens: every byte behind a token of each kind, held against the patterns.
func TestBytesBehindTokens(t *testing.T) { // P12.1
	for _, s := range append(parts(), "%", `"`, `"\`, "!", "a ", "00", "-0") {
		for i := range 256 {
			like(t, s+string([]byte{byte(i)}))
			like(t, s+string([]byte{byte(i)})+"=")
			like(t, s+" "+string([]byte{byte(i), '1'}))
		}
	}
}

// TestBytesInNames: all bytes of names and variables, and that no other byte belongs to one.
func TestBytesInNames(t *testing.T) { // P12.1
	const all = "abcdefghijklmnopqrstuvwxyzABCDEFGHIJKLMNOPQRSTUVWXYZ0123456789_"
	for _, first := range []string{"a", "m", "z", "A", "M", "Z"} {
		word := variable
		if first >= "a" {
			word = name
		}
		has(t, first, word(0, first))
		for i := range 256 {
			c := string([]byte{byte(i)})
			if strings.Contains(all, c) {
				has(t, first+c, word(0, first+c))
				has(t, first+c+"_0 "+first, word(0, first+c+"_0"), word(5, first))
				continue
			}
			if l, _, _ := lex.Words(first + c + "\n\""); len(l) > 0 && l[0] != word(0, first) {
				t.Errorf("behind %s, byte %d belongs to %v", first, i, l[0])
			}
			like(t, first+c)
		}
		has(t, first+all[1:], word(0, first+all[1:]))
	}
	has(t, "base view on not int sym", name(0, "base"), name(5, "view"), name(10, "on"), name(13, "not"), name(17, "int"), name(21, "sym"))
}

func TestLongNames(t *testing.T) { // P12.1
	for _, c := range "aZ" {
		for _, tail := range []string{"a", "Q", "_", "7"} {
			s := string(c) + strings.Repeat(tail, api.MaxName-1)
			w := name(0, s)
			if c == 'Z' {
				w.Kind = api.WVar
			}
			has(t, s, w)
			has(t, s+"(", w, mark(64, "("))
			w.At = 2
			has(t, "b "+s+" ", name(0, "b"), w)
			for _, more := range []string{"a", "B", "_", "0", "abc_D1", strings.Repeat("x", 60000)} {
				fails(t, s+more, 0)
				fails(t, "b "+s+more+" ?", 2)
			}
		}
	}
}

// TestAny: what may follow _.
func TestAny(t *testing.T) { // P12.1
	for i := range 256 {
		c := byte(i)
		s := "_" + string([]byte{c})
		switch {
		case c >= 'a' && c <= 'z', c >= 'A' && c <= 'Z', c >= '0' && c <= '9', c == '_':
			fails(t, s, 0)
			fails(t, "x,"+s, 2)
		case strings.IndexByte(" \t\n\r%", c) >= 0:
			has(t, s, anything(0))
		case strings.IndexByte("(),.:<>+=-", c) >= 0:
			has(t, s, anything(0), mark(1, s[1:]))
		default:
			fails(t, s, 1)
		}
	}
	has(t, "_", anything(0))
	has(t, "_,_", anything(0), mark(1, ","), anything(2))
	has(t, `_"a"_-1`, anything(0), sym(1, `"a"`, "a"), anything(4), num(5, -1))
	has(t, `_!=_`, anything(0), mark(1, "!="), anything(3))
	has(t, "_%_a\n_", anything(0), anything(5))
	fails(t, "_:-__", 3)
}

func TestInts(t *testing.T) { // P12.1
	for _, n := range []int64{0, 1, 9, 10, 42, 1000000, -1, -9, -10, math.MaxInt64, math.MaxInt64 - 1, math.MinInt64, math.MinInt64 + 1} {
		has(t, strconv.FormatInt(n, 10), num(0, n))
		has(t, " "+strconv.FormatInt(n, 10)+".", num(1, n), mark(1+len(strconv.FormatInt(n, 10)), "."))
	}
	for _, s := range []string{"9223372036854775808", "-9223372036854775809", "18446744073709551616", "00", "01", "007", "-0", "-00", "-01", "-007", strings.Repeat("1", 60000), strings.Repeat("0", 60000), "-" + strings.Repeat("9", 60000)} {
		fails(t, s, 0)
		fails(t, "a "+s+" b", 2)
		fails(t, "a"+`""`+s+"b", 3)
	}
	has(t, "1a", num(0, 1), name(1, "a"))
	has(t, "1A", num(0, 1), variable(1, "A"))
	has(t, "1_", num(0, 1), anything(1))
	has(t, "12-3", num(0, 12), num(2, -3))
	has(t, "12--3-", num(0, 12), mark(2, "-"), num(3, -3), mark(5, "-"))
	has(t, "0 0", num(0, 0), num(2, 0))
	has(t, "0-1", num(0, 0), num(1, -1))
	has(t, "1.5", num(0, 1), mark(1, "."), num(2, 5))
	has(t, "+1", mark(0, "+"), num(1, 1))
	has(t, "a-1", name(0, "a"), num(1, -1))
	has(t, "a_1-1", name(0, "a_1"), num(3, -1))
	fails(t, "1_0", 1)
	fails(t, "0-0", 1)
	fails(t, "1\u0663", 1)
}

// TestMinus: what may follow -.
func TestMinus(t *testing.T) { // P12.1
	has(t, "-", mark(0, "-"))
	for i := range 256 {
		s := "-" + string([]byte{byte(i)})
		switch {
		case i == '0':
			fails(t, s, 0)
		case i >= '1' && i <= '9':
			has(t, s, num(0, -int64(i-'0')))
		case strings.Contains(" \t\n\r%", s[1:]):
			has(t, s, mark(0, "-"))
			has(t, s+"\n1", mark(0, "-"), num(3, 1))
		case i >= 'a' && i <= 'z':
			has(t, s, mark(0, "-"), name(1, s[1:]))
		case i >= 'A' && i <= 'Z':
			has(t, s, mark(0, "-"), variable(1, s[1:]))
		case i == '_':
			has(t, s, mark(0, "-"), anything(1))
		case strings.Contains("(),.:<>+=-", s[1:]):
			has(t, s, mark(0, "-"), mark(1, s[1:]))
		default:
			fails(t, s, 1)
		}
	}
	has(t, `-"1"`, mark(0, "-"), sym(1, `"1"`, "1"))
	has(t, "<-1:-2:--3", mark(0, "<"), num(1, -1), mark(3, ":-"), num(5, 2), mark(6, ":-"), num(8, -3))
}

func TestSymbols(t *testing.T) { // P12.1
	for text, s := range map[string]string{
		`""`: "", `"a"`: "a", `" "`: " ", `"_a"`: "_a", `"%"`: "%", `"?!@"`: "?!@", `"007"`: "007",
		`"\""`: `"`, `"\\"`: `\`, `"\\\""`: `\"`, `"\\\\"`: `\\`, `"\"\""`: `""`, `"\n\t"`: "\n\t", `"a\nb"`: "a\nb",
		`"\x00\xff"`: "\x00\xff", `"\\x41"`: `\x41`, `"a\"b"`: `a"b`, `"\\n"`: `\n`,
		`"` + strings.Repeat("a", api.MaxSym) + `"`:    strings.Repeat("a", api.MaxSym),
		`"` + strings.Repeat(`\x01`, api.MaxSym) + `"`: strings.Repeat("\x01", api.MaxSym),
		`"` + strings.Repeat(`\"`, api.MaxSym) + `"`:   strings.Repeat(`"`, api.MaxSym),
	} {
		n := len(text)
		has(t, text, sym(0, text, s))
		has(t, text+text, sym(0, text, s), sym(n, text, s))
		has(t, "a"+text+"b %", name(0, "a"), sym(1, text, s), name(1+n, "b"))
		fails(t, text+`"`, n)
		fails(t, text+" ?", n+1)
		fails(t, text[:n-1], 0)
		fails(t, "a "+text[:n-1], 2)
	}
}

func TestSymbolsThatAreNone(t *testing.T) { // P12.1
	for _, s := range []string{
		`"`, `"a`, `"\`, `"\"`, `"\\\"`, `"a\"b`, `"a\`, `"""`, `"\q"`, `"\r"`, `"\x4"`, `"\x41"`, `"\xFF"`, `"\x"`, `"\ "`, `"\'"`,
		"\"\n\"", "\"a\nb\"", "\"\t\"", "\"\r\"", "\"\x00\"", "\"\x7f\"", "\"é\"", "\"\xff\"", "\"\\\n\"", "\"\\\xff\"",
		`"` + strings.Repeat("a", api.MaxSym+1) + `"`, `"` + strings.Repeat(`\x01`, api.MaxSym+1) + `"`, `"` + strings.Repeat("a", 60000),
		`"` + strings.Repeat(`\"`, 30000), `"` + strings.Repeat(`\\`, 30000) + `"`, `'a'`, "`a`",
	} {
		at := 0
		if s == `"""` { // the first two are a symbol
			at = 2
		}
		fails(t, s, at)
		fails(t, "a,\n"+s, 3+at)
		fails(t, s+"\n?", at)
	}
	fails(t, `"a" "b" "\q" "c"`, 8)
	fails(t, `"\\" "\" a`, 5)
}

// TestSymbolsOfEachByte: each byte in a symbol, escaped and not.
func TestSymbolsOfEachByte(t *testing.T) { // P12.1
	for i := range 256 {
		c := string([]byte{byte(i)})
		switch {
		case c == `"`:
			has(t, `"\""`, sym(0, `"\""`, `"`))
			fails(t, `"""`, 2)
		case c == `\`:
			has(t, `"\\"`, sym(0, `"\\"`, `\`))
			fails(t, `"\"`, 0)
		case i >= 32 && i <= 126:
			has(t, `"`+c+`"`, sym(0, `"`+c+`"`, c))
		default:
			fails(t, `"`+c+`"`, 0)
		}
		like(t, `"\`+c+`"`)
		like(t, `"\`+c+`"x"`)
		like(t, `"\`+c+c+`"`)
		like(t, `"\\`+c+`"`)
	}
}

func TestMarks(t *testing.T) { // P12.1
	one := []string{"(", ")", ",", ".", ":", "<", ">", "+", "=", "-"}
	two := []string{":-", "<=", ">=", "!="}
	for _, s := range slices.Concat(one, two) {
		n := len(s)
		has(t, s, mark(0, s))
		has(t, s+" "+s, mark(0, s), mark(n+1, s))
		has(t, s+s, mark(0, s), mark(n, s))
		has(t, "a"+s+"B", name(0, "a"), mark(1, s), variable(1+n, "B"))
		has(t, s+`"a"`, mark(0, s), sym(n, `"a"`, "a"))
		has(t, s+"%", mark(0, s))
	}
	for _, a := range one {
		for _, b := range one {
			if slices.Contains(two, a+b) {
				has(t, a+b, mark(0, a+b))
				has(t, a+" "+b, mark(0, a), mark(2, b))
				has(t, a+"%\n"+b, mark(0, a), mark(3, b))
				continue
			}
			has(t, a+b, mark(0, a), mark(1, b))
		}
	}
	has(t, "<==>==!==:=:--", mark(0, "<="), mark(2, "="), mark(3, ">="), mark(5, "="), mark(6, "!="), mark(8, "="), mark(9, ":"), mark(10, "="), mark(11, ":-"), mark(13, "-"))
	has(t, "=<=>", mark(0, "="), mark(1, "<="), mark(3, ">"))
	has(t, "::-:", mark(0, ":"), mark(1, ":-"), mark(3, ":"))
}

// TestExclamation: only = may follow.
func TestExclamation(t *testing.T) { // P12.1
	fails(t, "!", 0)
	for i := range 256 {
		if i != '=' {
			fails(t, "!"+string([]byte{byte(i)}), 0)
			fails(t, "a !"+string([]byte{byte(i)})+"=", 2)
		}
	}
	has(t, "!=", mark(0, "!="))
	has(t, "!=!=", mark(0, "!="), mark(2, "!="))
	fails(t, "!=!", 2)
	fails(t, "!%\n=", 0)
}

// TestGaps: four bytes, and no other.
func TestGaps(t *testing.T) { // P12.1
	for i := range 256 {
		c := string([]byte{byte(i)})
		if strings.Contains("\x20\x09\x0a\x0d", c) {
			has(t, "a"+c+"b", name(0, "a"), name(2, "b"))
			has(t, c+"a"+c+c+c+"b"+c, name(1, "a"), name(5, "b"))
			has(t, ":"+c+"-"+c+"3", mark(0, ":"), mark(2, "-"), num(4, 3))
			has(t, "<"+c+"=", mark(0, "<"), mark(2, "="))
			has(t, "_"+c+"_", anything(0), anything(2))
			fails(t, "!"+c+"=", 0)
			continue
		}
		if l, _, _ := lex.Words("a" + c + "b"); slices.Equal(l, []api.Word{name(0, "a"), name(2, "b")}) {
			t.Errorf("byte %d is a gap", i)
		}
	}
	for _, s := range []string{"\v", "\f", "\x00", "\x1f", "\x7f", "\x85", "\xa0", "\u0085", "\u00a0", "\u2003", "\u2028", "\u3000", "\ufeff"} {
		fails(t, "a "+s+" b", 2)
		fails(t, s+"a", 0)
	}
}

func TestComments(t *testing.T) { // P12.1
	has(t, "a%b\nc", name(0, "a"), name(4, "c"))
	has(t, "a%b\rc", name(0, "a"))
	has(t, "a%b\n%c\n\n %\nd%", name(0, "a"), name(11, "d"))
	has(t, "% \" ? _a 007 !\n\"%\"", sym(15, `"%"`, "%"))
	has(t, "%%\n%\n-%\n1", mark(5, "-"), num(8, 1))
	fails(t, "a%\n?", 3)
	for i := range 256 {
		c := string([]byte{byte(i)})
		if c == "\n" {
			has(t, "a%"+c+"b", name(0, "a"), name(3, "b"))
			continue
		}
		has(t, "a%"+c+"b", name(0, "a"))
		has(t, "a%"+c+"b\n c", name(0, "a"), name(6, "c"))
		has(t, "%"+c)
	}
}

// TestNoEncoding: texts are bytes, whether they are characters or not.
func TestNoEncoding(t *testing.T) { // P12.1
	for s, at := range map[string]int{
		"\xff": 0, "a\xc3": 1, "a \xc3\xa9": 2, "é": 0, "aé": 1, "_é": 1, "-é": 1, "1é": 1, "Σ": 0, "\xed\xa0\x80": 0, "\xf8\x88\x80\x80\x80": 0,
		"\xef\xbb\xbfa": 0, "a\x00": 1, "\"\xc3": 0, "\"\xc3\"": 0, "\"é\"": 0, "!\xc3=": 0, "\u0661": 0, "ａ": 0, "a\u0301": 1, "\xc0\xaf": 0, "\xc1\xa1": 0,
	} {
		fails(t, s, at)
	}
	has(t, "%\xff\xfe\xc3\n\na", name(6, "a"))
	has(t, "a %\xc3\n\r%\xa9", name(0, "a"))
}

func TestLongTexts(t *testing.T) { // P12.1
	const n = api.MaxText
	has(t, strings.Repeat(" ", n))
	has(t, "%"+strings.Repeat("?", n-1))
	has(t, strings.Repeat("\n", n-1)+"a", name(n-1, "a"))
	has(t, "a"+strings.Repeat(" ", n-1), name(0, "a"))
	fails(t, strings.Repeat(" ", n-1)+"?", n-1)
	fails(t, `"`+strings.Repeat("a", n-1), 0)
	fails(t, strings.Repeat("a", n), 0)
	for _, s := range []string{"(", "<=", "a ", "-1", `"a"X`} {
		whole := strings.Repeat(s, n/len(s))
		one, _, _ := lex.Words(s)
		l, at, e := lex.Words(whole)
		if len(l) != len(one)*(n/len(s)) || at != 0 || e != api.OK {
			t.Errorf("of %q: %d tokens, %d, %d", s, len(l), at, e)
		}
		for i, w := range l {
			if !lex.Same(w, one[i%len(one)]) || w.At != one[i%len(one)].At+i/len(one)*len(s) {
				t.Fatalf("of %q: token %d is %v", s, i, w)
			}
		}
	}
	for _, s := range []string{" ", "(", "?", "a", "007", `"`, "\xff", "%", "\n"} {
		long := strings.Repeat(s, n/len(s)+1)
		for _, text := range []string{long[:n+1], long[:n] + " ", long + long, "a" + long, long[:n] + "?"} {
			if l, at, e := lex.Words(text); len(l) != 0 || at != 0 || e != api.ErrLong {
				t.Errorf("of %d bytes %q: %d tokens, %d, %d", len(text), s, len(l), at, e)
			}
		}
	}
}

// TestTwoBytes: all texts of two bytes, held against the patterns.
func TestTwoBytes(t *testing.T) { // P12.1
	for i := range 1 << 16 {
		like(t, string([]byte{byte(i >> 8), byte(i)}))
	}
}

// TestShortTexts: all texts of some bytes, held against the patterns.
func TestShortTexts(t *testing.T) { // P12.1
	letters := []byte("aZ_01-\"\\:=<!.% \n\xc3")
	var step func(s []byte, left int)
	step = func(s []byte, left int) {
		like(t, string(s))
		if left > 0 && !t.Failed() {
			for _, c := range letters {
				step(append(s, c), left-1)
			}
		}
	}
	step(make([]byte, 0, 8), 4)
}

// TestDrawnTexts: drawn texts, held against the patterns.
func TestDrawnTexts(t *testing.T) { // P12.1
	r := rand.New(rand.NewSource(121))
	for range 20000 {
		like(t, drawn(r, 12))
	}
	for range 20000 {
		b := make([]byte, r.Intn(8))
		for i := range b {
			b[i] = byte(r.Intn(256))
		}
		like(t, string(b))
	}
}

// TestFaultsSplit: an error is where the tokens before it end, and what follows it begins with none.
func TestFaultsSplit(t *testing.T) { // P12.1
	r := rand.New(rand.NewSource(122))
	faults := 0
	for range 5000 {
		s := drawn(r, 60)
		_, at, e := lex.Words(s)
		if e == api.OK {
			continue
		}
		faults++
		if _, _, e := lex.Words(s[:at]); e != api.OK {
			t.Fatalf("%q: ahead of %d: %d", s, at, e)
		}
		fails(t, s[at:], 0)
	}
	if faults < 1000 || faults > 4900 {
		t.Errorf("%d of 5000 texts have an error", faults)
	}
}

// TestWordsOwn: each answer is the caller's own.
func TestWordsOwn(t *testing.T) { // P12.1
	const s = `p(X, "a\n") :- q(X).`
	l, _, _ := lex.Words(s)
	want := slices.Clone(l)
	clear(l[:cap(l)])
	has(t, s, want...)
}
