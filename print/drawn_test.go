package print_test

import (
	"math/rand"
	"reflect"
	"testing"

	"pedigree/api"
)

// P14.1 on parts composed of everything that may and may not be, held against the document's definitions.

// someTerms are terms of all kinds, with each field as it should be, and as it should not.
func someTerms() []api.Term {
	var l []api.Term
	for kind := api.TermKind(-1); kind <= 4; kind++ {
		for _, name := range []string{"", "X", "A_1", "x", "_", "X ", "not"} {
			for _, v := range []api.Value{{}, {Kind: 1}, {Kind: 1, N: -3}, {Kind: 2}, {Kind: 2, S: "a"}, {Kind: 1, S: "a"}, {Kind: 2, N: 1}, {N: 1}, {S: "X"}, {Kind: 3}, {Kind: -1}} {
				l = append(l, api.Term{Kind: kind, Name: name, V: v})
			}
		}
	}
	return l
}

func TestAllTerms(t *testing.T) { // P14.1
	for _, x := range someTerms() {
		likeDefined(t, x)
		likeDefined(t, atom("p", x))
		likeDefined(t, compared(x, api.CLe, num(1)))
		likeDefined(t, compared(num(1), api.CGt, x))
		likeDefined(t, api.Literal{Kind: api.LPos, Atom: atom("p"), A: x})
		likeDefined(t, api.Literal{Kind: api.LNeg, Atom: atom("p"), B: x})
	}
}

func TestAllLiterals(t *testing.T) { // P14.1
	terms := []api.Term{{}, variable("X"), num(1), anything(), variable("x"), {Name: "X"}, {V: api.Value{N: 1}}}
	atoms := []api.Atom{{}, {Args: []api.Term{}}, {Args: []api.Term{{}}}, atom("p"), atom("p", num(1)), atom("not"), atom("", num(1)), atom("p", api.Term{})}
	for kind := api.LitKind(-1); kind <= 5; kind++ {
		for op := api.CmpOp(-1); op <= 8; op++ {
			for _, a := range terms {
				for _, b := range terms {
					for _, c := range atoms {
						likeDefined(t, api.Literal{Kind: kind, Atom: c, Op: op, A: a, B: b})
					}
				}
			}
		}
	}
}

func TestAllClauses(t *testing.T) { // P14.1
	names := []string{"p", "X", "", "view", "p ", "sym"}
	for _, s := range names {
		for _, is := range []bool{true, false} {
			for n := api.Type(-1); n <= 4; n++ {
				for m := api.Type(-1); m <= 4; m++ {
					likeDefined(t, api.Decl{Name: s, Base: is, Types: []api.Type{n, m}})
					for _, v := range names {
						likeDefined(t, api.On{Event: s, Params: params(param(v, n), param("A", m))})
						likeDefined(t, api.On{Event: s, Params: params(param("A", n), param(v, m)), Acts: []api.Act{{Plus: is, Atom: atom("p")}, {Plus: !is, Atom: atom(v)}}})
					}
				}
			}
			for _, q := range names {
				likeDefined(t, api.Rule{Head: atom(s), Body: []api.Literal{{Kind: 1, Atom: atom(q)}}})
				likeDefined(t, api.On{Event: s, Acts: []api.Act{{Plus: is, Atom: atom(q)}}})
			}
		}
	}
}

// drawer draws parts that have a text.
type drawer struct {
	*rand.Rand
}

func drawing(seed int64) *drawer { return &drawer{rand.New(rand.NewSource(seed))} }

func oneOf[T any](d *drawer, l ...T) T { return l[d.Intn(len(l))] }

// some draws a row of up to three parts; without any, it is nil or empty.
func some[T any](d *drawer, part func() T) []T {
	l := oneOf(d, nil, []T{})
	for range d.Intn(4) {
		l = append(l, part())
	}
	return l
}

func (d *drawer) name() string {
	return oneOf(d, "p", "q", "edge", "int", "sym", "nota", "on_1", "z9", "vIEW")
}

func (d *drawer) variable() string { return oneOf(d, "X", "Y", "Base", "On", "A_0", "ZZ") }

func (d *drawer) kind() api.Type { return oneOf(d, api.TInt, api.TSym) }

func (d *drawer) term() api.Term {
	switch d.Intn(4) {
	case 0:
		return variable(d.variable())
	case 1:
		return anything()
	case 2:
		return num(oneOf[int64](d, 0, 1, -1, 30, -30, 1<<63-1, -1<<63))
	}
	return sym(oneOf(d, "", "a", "X", "_", "1", `"`, `\`, `, "`, `", "`, "%", " ", "\n", "\\n", "p(X).", "\xff\x00", "not", ").\np("))
}

func (d *drawer) atom() api.Atom { return api.Atom{Pred: d.name(), Args: some(d, d.term)} }

func (d *drawer) literal() api.Literal {
	switch d.Intn(3) {
	case 0:
		return pos(d.atom())
	case 1:
		return neg(d.atom())
	}
	return compared(d.term(), api.CmpOp(1+d.Intn(6)), d.term())
}

func (d *drawer) rule() api.Rule { return api.Rule{Head: d.atom(), Body: some(d, d.literal)} }

func (d *drawer) decl() api.Decl {
	return api.Decl{Name: d.name(), Base: d.Intn(2) == 0, Types: some(d, d.kind)}
}

func (d *drawer) param() api.Param { return param(d.variable(), d.kind()) }

func (d *drawer) act() api.Act { return api.Act{Plus: d.Intn(2) == 0, Atom: d.atom()} }

func (d *drawer) on() api.On {
	return api.On{Event: d.name(), Params: some(d, d.param), Acts: some(d, d.act)}
}

func (d *drawer) program() api.Program {
	return api.Program{Decls: some(d, d.decl), Ons: some(d, d.on), Rules: some(d, d.rule)}
}

// parts are one drawn part of each kind.
func (d *drawer) parts() []part {
	return []part{d.term(), d.atom(), d.literal(), d.rule(), d.decl(), d.on(), d.program()}
}

func TestDrawnParts(t *testing.T) { // P14.1
	d := drawing(14)
	for range 2000 {
		for _, x := range d.parts() {
			if _, ok := defined(x); !ok {
				t.Fatalf("no text: %+v", x)
			}
			likeDefined(t, x)
		}
	}
}

// changeable is a copy of a part whose fields and rows can be set.
func changeable(x part) reflect.Value {
	v := reflect.New(reflect.TypeOf(x)).Elem()
	v.Set(copyOf(reflect.ValueOf(x)))
	return v
}

// places are all fields and rows within a part.
func places(v reflect.Value) []reflect.Value {
	var l []reflect.Value
	switch v.Kind() {
	case reflect.Struct:
		for i := range v.NumField() {
			l = append(l, places(v.Field(i))...)
		}
	case reflect.Slice:
		l = append(l, v)
		for i := range v.Len() {
			l = append(l, places(v.Index(i))...)
		}
	default:
		l = append(l, v)
	}
	return l
}

// alter sets a field or a row to something that is drawn.
func (d *drawer) alter(v reflect.Value) {
	switch v.Kind() {
	case reflect.Bool:
		v.SetBool(!v.Bool())
	case reflect.Int, reflect.Int64:
		v.SetInt(oneOf(d, 0, 1, 2, 3, v.Int()+1, v.Int()-1, -v.Int(), v.Int()+1<<32))
	case reflect.String:
		v.SetString(oneOf(d, "", "p", "X", "a", "on", "_", "1", v.String()+"a", v.String()+" ", v.String()+", ", " "+v.String()))
	case reflect.Slice:
		d.alterRow(v)
	}
}

// alterRow takes one away, puts one in that is zero, repeats one, or takes them all away.
func (d *drawer) alterRow(v reflect.Value) {
	n := v.Len()
	switch kind := d.Intn(4); {
	case n == 0 || kind == 0:
		i := d.Intn(n + 1)
		l := reflect.AppendSlice(reflect.MakeSlice(v.Type(), 0, n+1), v.Slice(0, i))
		l = reflect.Append(l, reflect.New(v.Type().Elem()).Elem())
		v.Set(reflect.AppendSlice(l, v.Slice(i, n)))
	case kind == 1:
		v.Set(reflect.Append(v.Slice(0, n), v.Index(d.Intn(n))))
	case kind == 2:
		i := d.Intn(n)
		l := reflect.AppendSlice(reflect.MakeSlice(v.Type(), 0, n), v.Slice(0, i))
		v.Set(reflect.AppendSlice(l, v.Slice(i+1, n)))
	default:
		v.Set(reflect.MakeSlice(v.Type(), 0, 0))
	}
}

// altered is a copy of a part of which one field or row has been set to something else, or is as it was.
func (d *drawer) altered(x part) part {
	v := changeable(x)
	l := places(v)
	d.alter(l[d.Intn(len(l))])
	return v.Interface()
}

func TestAlteredParts(t *testing.T) { // P14.1
	d := drawing(15)
	texts, others := 0, 0
	for range 3000 {
		for _, x := range d.parts() {
			for range 2 {
				x = d.altered(x)
				if _, ok := defined(x); ok {
					texts++
				} else {
					others++
				}
				likeDefined(t, x)
			}
		}
	}
	if texts < 5000 || others < 5000 {
		t.Errorf("%d have a text, %d have none", texts, others)
	}
}
