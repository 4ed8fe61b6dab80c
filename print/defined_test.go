package print_test

import (
	"fmt"
	"regexp"
	"strconv"
	"strings"
	"testing"

	"pedigree/api"
)

// The document's definitions of what has a text and which, written out once more and in another way.

// noText is what definition panics with where a part has no text.
type noText struct{}

// defined is a part's text as the document defines it, and whether it has one.
func defined(x any) (s string, ok bool) {
	defer func() {
		switch p := recover().(type) {
		case nil:
		case noText:
			s, ok = "", false
		default:
			panic(p)
		}
	}()
	return definition(x), true
}

// likeDefined tells if what the package answers is not what the document defines.
func likeDefined(t *testing.T, x part) {
	t.Helper()
	s, ok := defined(x)
	switch p, isProgram := x.(api.Program); {
	case !ok:
		none(t, x)
	case isProgram && len(s) > 65536:
		fails(t, p, 2)
	default:
		is(t, x, s)
	}
}

func need(holds bool) {
	if !holds {
		panic(noText{})
	}
}

var (
	nameForm = regexp.MustCompile(`\A[a-z][a-zA-Z0-9_]{0,63}\z`)
	varForm  = regexp.MustCompile(`\A[A-Z][a-zA-Z0-9_]{0,63}\z`)
	reserved = regexp.MustCompile(`\A(base|view|on|not)\z`)
)

func isName(s string) bool { return nameForm.MatchString(s) && !reserved.MatchString(s) }

func isVar(s string) bool { return varForm.MatchString(s) }

func definition(x any) string {
	switch x := x.(type) {
	case api.Type:
		need(x == 1 || x == 2)
		return []string{"", "int", "sym"}[x]
	case api.Value:
		return valueText(x)
	case api.Term:
		return termText(x)
	case api.Atom:
		need(isName(x.Pred))
		return fmt.Sprintf("%s(%s)", x.Pred, texts(x.Args))
	case api.Literal:
		return literalText(x)
	case api.Rule:
		if len(x.Body) == 0 {
			return definition(x.Head) + "."
		}
		return fmt.Sprintf("%s :- %s.", definition(x.Head), texts(x.Body))
	case api.Decl:
		need(isName(x.Name))
		return fmt.Sprintf("%s %s(%s).", map[bool]string{true: "base", false: "view"}[x.Base], x.Name, texts(x.Types))
	case api.Param:
		need(isVar(x.Name))
		return x.Name + " " + definition(x.Type)
	case api.Act:
		return map[bool]string{true: "+", false: "-"}[x.Plus] + definition(x.Atom)
	case api.On:
		need(isName(x.Event))
		if len(x.Acts) == 0 {
			return fmt.Sprintf("on %s(%s).", x.Event, texts(x.Params))
		}
		return fmt.Sprintf("on %s(%s): %s.", x.Event, texts(x.Params), texts(x.Acts))
	case api.Program:
		var l []any
		for _, d := range x.Decls {
			l = append(l, d)
		}
		for _, o := range x.Ons {
			l = append(l, o)
		}
		for _, r := range x.Rules {
			l = append(l, r)
		}
		var b strings.Builder
		for _, c := range l {
			fmt.Fprintf(&b, "%s\n", definition(c))
		}
		return b.String()
	}
	panic(fmt.Sprintf("no definition: %T", x))
}

// texts are those of parts with commas between them.
func texts[T any](l []T) string {
	all := make([]string, len(l))
	for i := range l {
		all[i] = definition(l[i])
	}
	return strings.Join(all, ", ")
}

func termText(x api.Term) string {
	switch x.Kind {
	case 1:
		need(isVar(x.Name) && x.V == api.Value{})
		return x.Name
	case 2:
		need(x.Name == "")
		return definition(x.V)
	case 3:
		need(x.Name == "" && x.V == api.Value{})
		return "_"
	}
	panic(noText{})
}

func literalText(x api.Literal) string {
	only := x.Op == 0 && x.A == api.Term{} && x.B == api.Term{}
	switch x.Kind {
	case 1:
		need(only)
		return definition(x.Atom)
	case 2:
		need(only)
		return "not " + definition(x.Atom)
	case 3:
		need(x.Atom.Pred == "" && len(x.Atom.Args) == 0 && x.Op >= 1 && x.Op <= 6)
		return strings.Join([]string{definition(x.A), strings.Fields("= != < <= > >=")[x.Op-1], definition(x.B)}, " ")
	}
	panic(noText{})
}

func valueText(x api.Value) string {
	switch x.Kind {
	case 1:
		need(x.S == "")
		return strconv.FormatInt(x.N, 10)
	case 2:
		need(x.N == 0 && len(x.S) <= 256)
		var b strings.Builder
		for _, c := range []byte(x.S) {
			switch {
			case strings.IndexByte(`"\`, c) >= 0:
				fmt.Fprintf(&b, `\%c`, c)
			case c == 10:
				b.WriteString(`\n`)
			case c == 9:
				b.WriteString(`\t`)
			case c < 32 || c > 126:
				fmt.Fprintf(&b, `\x%02x`, c)
			default:
				b.WriteByte(c)
			}
		}
		return `"` + b.String() + `"`
	}
	panic(noText{})
}
