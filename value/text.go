package value

import (
	"strconv"

	"pedigree/api"
)

// Text is a value's text.
func Text(v api.Value) (string, api.Errno) {
	if e := Check(v); e != api.OK {
		return "", e
	}
	if v.Kind == api.VInt {
		return strconv.FormatInt(v.N, 10), api.OK
	}
	return quote(v.S), api.OK
}

// Read is the value of a text.
func Read(s string) (api.Value, api.Errno) {
	v, ok := decode(s)
	if !ok {
		return api.Value{}, api.ErrValue
	}
	// decode takes more spellings than the one that a value has, such as 007: only that one counts.
	if text, e := Text(v); e != api.OK || text != s {
		return api.Value{}, api.ErrValue
	}
	return v, api.OK
}

// quote writes a symbol's bytes as they stand in a text.
func quote(s string) string {
	const digits = "0123456789abcdef"
	out := []byte{'"'}
	for i := range len(s) {
		switch c := s[i]; {
		case c == '"' || c == '\\':
			out = append(out, '\\', c)
		case c == '\n':
			out = append(out, '\\', 'n')
		case c == '\t':
			out = append(out, '\\', 't')
		case c >= ' ' && c <= '~':
			out = append(out, c)
		default:
			out = append(out, '\\', 'x', digits[c>>4], digits[c&15])
		}
	}
	return string(append(out, '"'))
}

// decode is the value that a text spells, in whatever way.
func decode(s string) (api.Value, bool) {
	if s == "" || s[0] != '"' {
		n, err := strconv.ParseInt(s, 10, 64)
		return api.Value{Kind: api.VInt, N: n}, err == nil
	}
	body, ok := unquote(s)
	return api.Value{Kind: api.VSym, S: body}, ok
}

// unquote is what stands between the quotes, its escapes undone.
func unquote(s string) (string, bool) {
	last := len(s) - 1
	if last < 1 || s[last] != '"' {
		return "", false
	}
	var out []byte
	for i := 1; i < last; {
		c, n := unescape(s[i:last])
		if n == 0 {
			return "", false
		}
		out = append(out, c)
		i += n
	}
	return string(out), true
}

// unescape is the first byte that s spells, and how many bytes spell it: none if they are no escape.
func unescape(s string) (byte, int) {
	if s[0] != '\\' {
		return s[0], 1
	}
	if len(s) < 2 {
		return 0, 0
	}
	switch s[1] {
	case '"', '\\':
		return s[1], 2
	case 'n':
		return '\n', 2
	case 't':
		return '\t', 2
	case 'x':
		if len(s) < 4 {
			return 0, 0
		}
		c, err := strconv.ParseUint(s[2:4], 16, 8)
		if err != nil {
			return 0, 0
		}
		return byte(c), 4
	}
	return 0, 0
}
