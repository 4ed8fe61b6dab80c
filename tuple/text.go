package tuple

import (
	"strings"

	"pedigree/api"
	"pedigree/value"
)

const (
	opening = "("
	between = ", "
	closing = ")"
)

// Text is a tuple's text.
func Text(t api.Tuple) (string, api.Errno) {
	if e := Check(t); e != api.OK {
		return "", e
	}
	texts := make([]string, len(t))
	for i, v := range t {
		texts[i], _ = value.Text(v) // Check has let v pass
	}
	return opening + strings.Join(texts, between) + closing, api.OK
}

// Read is the tuple of a text.
func Read(s string) (api.Tuple, api.Errno) {
	s, opened := strings.CutPrefix(s, opening)
	s, closed := strings.CutSuffix(s, closing)
	if !opened || !closed {
		return nil, api.ErrTuple
	}
	t, ok := values(s)
	if !ok {
		return nil, api.ErrTuple
	}
	return t, api.OK
}

// values are those whose texts s is made of, if there are not too many for a tuple.
func values(s string) (api.Tuple, bool) {
	var t api.Tuple
	for more := s != ""; more; {
		n := extent(s)
		v, e := value.Read(s[:n])
		if e != api.OK || len(t) == api.MaxArity {
			return nil, false
		}
		t = append(t, v)
		s, more = strings.CutPrefix(s[n:], between)
	}
	return t, s == ""
}

// extent is how many bytes of s lie ahead of the first comma that stands in no symbol.
func extent(s string) int {
	quoted := false
	for i := 0; i < len(s); i++ {
		switch c := s[i]; {
		case c == '\\':
			i++ // what is escaped ends no symbol
		case c == '"':
			quoted = !quoted
		case c == ',' && !quoted:
			return i
		}
	}
	return len(s)
}
