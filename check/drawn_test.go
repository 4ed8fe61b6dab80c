package check_test

import (
	"math/rand"
	"reflect"
	"testing"

	"pedigree/api"
	"pedigree/check"
)

// Drawn programs that are valid, and such that have been altered, held against the document's definitions.

type drawer struct {
	*rand.Rand
}

func drawing(seed int64) *drawer { return &drawer{rand.New(rand.NewSource(seed))} }

func oneOf[T any](d *drawer, l ...T) T { return l[d.Intn(len(l))] }

func some[T any](d *drawer, most int, part func() T) []T {
	l := oneOf(d, nil, []T{})
	for range d.Intn(most + 1) {
		l = append(l, part())
	}
	return l
}

func (d *drawer) kind() api.Type { return oneOf(d, api.TInt, api.TSym) }

func (d *drawer) constant(is api.Type) api.Term {
	if is == api.TInt {
		return num(oneOf[int64](d, 0, 1, -1, 1<<63-1, -1<<63))
	}
	return sym(oneOf(d, "", "a", "X", "\xff"))
}

// program draws one that is valid: base relations b.., views v.., events e...
func (d *drawer) program() api.Program {
	var p api.Program
	for i := range 1 + d.Intn(4) {
		p.Decls = append(p.Decls, base(named("b", i), some(d, 3, d.kind)...))
	}
	for i := range 1 + d.Intn(4) {
		p.Decls = append(p.Decls, view(named("v", i), some(d, 3, d.kind)...))
	}
	d.Shuffle(len(p.Decls), func(i, k int) { p.Decls[i], p.Decls[k] = p.Decls[k], p.Decls[i] })
	for i := range d.Intn(4) {
		p.Ons = append(p.Ons, d.on(p, oneOf(d, named("e", i), named("b", i), named("v", i))))
	}
	for range d.Intn(5) {
		p.Rules = append(p.Rules, d.rule(p))
	}
	return p
}

// relation draws a declaration that is base, a view, or either.
func (d *drawer) relation(p api.Program, base, view bool) api.Decl {
	for {
		if x := p.Decls[d.Intn(len(p.Decls))]; x.Base && base || !x.Base && view {
			return x
		}
	}
}

func (d *drawer) on(p api.Program, name string) api.On {
	o := api.On{Event: name}
	of := map[api.Type][]api.Term{}
	for i, is := range some(d, 4, d.kind) {
		o.Params = append(o.Params, param(named("P", i), is))
		of[is] = append(of[is], variable(named("P", i)))
	}
	for range d.Intn(4) {
		r := d.relation(p, true, false)
		a := atom(r.Name)
		for _, is := range r.Types {
			a.Args = append(a.Args, oneOf(d, append(of[is], d.constant(is))...))
		}
		o.Acts = append(o.Acts, api.Act{Plus: d.Intn(2) == 0, Atom: a})
	}
	return o
}

// rule draws one with some literals that bind variables, and some that use those that are bound.
func (d *drawer) rule(p api.Program) api.Rule {
	var r api.Rule
	of := map[api.Type][]api.Term{}
	for range d.Intn(4) {
		x := d.relation(p, true, true)
		a := atom(x.Name)
		for _, is := range x.Types {
			v := variable(oneOf(d, "X", "Y", "Z") + []string{"", "i", "s"}[is])
			if d.Intn(4) == 0 {
				v = oneOf(d, anything(), d.constant(is))
			} else {
				of[is] = append(of[is], v)
			}
			a.Args = append(a.Args, v)
		}
		r.Body = append(r.Body, pos(a))
	}
	used := func(is api.Type, more ...api.Term) api.Term {
		return oneOf(d, append(append(more, d.constant(is)), of[is]...)...)
	}
	for range d.Intn(3) {
		x := d.relation(p, true, true)
		a := atom(x.Name)
		for _, is := range x.Types {
			a.Args = append(a.Args, used(is, anything()))
		}
		r.Body = append(r.Body, neg(a))
	}
	for range d.Intn(3) {
		is := d.kind()
		r.Body = append(r.Body, compared(used(is), api.CmpOp(1+d.Intn(6)), used(is)))
	}
	d.Shuffle(len(r.Body), func(i, k int) { r.Body[i], r.Body[k] = r.Body[k], r.Body[i] })
	x := d.relation(p, false, true)
	r.Head.Pred = x.Name
	for _, is := range x.Types {
		r.Head.Args = append(r.Head.Args, used(is))
	}
	return r
}

// places are all fields and rows within a part.
func places(v reflect.Value) []reflect.Value {
	var l []reflect.Value
	switch v.Kind() {
	case reflect.Struct:
		for i := range v.NumField() {
			l = append(l, places(v.Field(i))...)
		}
	case reflect.Slice:
		l = append(l, v)
		for i := range v.Len() {
			l = append(l, places(v.Index(i))...)
		}
	default:
		l = append(l, v)
	}
	return l
}

// alter sets a field or a row to something that is drawn.
func (d *drawer) alter(v reflect.Value) {
	switch v.Kind() {
	case reflect.Bool:
		v.SetBool(!v.Bool())
	case reflect.Int, reflect.Int64:
		v.SetInt(oneOf(d, 0, 1, 2, 3, v.Int()+1, v.Int()-1, -v.Int()))
	case reflect.String:
		v.SetString(oneOf(d, "", "b0", "v0", "e0", "Xi", "Xs", "Yi", "P0", "P1", "W", v.String()+" "))
	case reflect.Slice:
		d.alterRow(v)
	}
}

// alterRow takes one away, repeats one, or takes one from another place.
func (d *drawer) alterRow(v reflect.Value) {
	n := v.Len()
	if n == 0 {
		v.Set(reflect.MakeSlice(v.Type(), 1, 1))
		return
	}
	i := d.Intn(n)
	l := reflect.AppendSlice(reflect.MakeSlice(v.Type(), 0, n), v.Slice(0, i))
	switch d.Intn(3) {
	case 0:
		v.Set(reflect.AppendSlice(l, v.Slice(i+1, n)))
	case 1:
		v.Set(reflect.Append(v.Slice3(0, n, n), copyOf(v.Index(i))))
	default:
		l = reflect.AppendSlice(reflect.Append(l, copyOf(v.Index(d.Intn(n)))), v.Slice(i+1, n))
		v.Set(l)
	}
}

// altered is a copy of a program of which some fields or rows have been set to something else, or are as they were.
func (d *drawer) altered(p api.Program, times int) api.Program {
	v := reflect.New(reflect.TypeOf(p)).Elem()
	v.Set(copyOf(reflect.ValueOf(p)))
	for range times {
		l := places(v)
		d.alter(l[d.Intn(len(l))])
	}
	return v.Interface().(api.Program)
}

func TestDrawnValid(t *testing.T) { // P15.1, P15.2, P15.3
	d := drawing(15)
	for range 3000 {
		p := d.program()
		valid(t, "drawn", p)
		likeDefined(t, p)
		if t.Failed() {
			t.Fatalf("%+v", p)
		}
	}
}

func TestDrawnAltered(t *testing.T) { // P15.1, P15.2, P15.3
	d := drawing(151)
	seen := map[api.Errno]int{}
	for range 10000 {
		p := d.altered(d.program(), 1+d.Intn(3))
		likeDefined(t, p)
		if t.Failed() {
			return
		}
		_, e := check.Program(p)
		seen[e]++
	}
	for _, e := range []api.Errno{0, 150, 151, 152, 153, 154, 155, 156, 158} {
		if seen[e] < 50 {
			t.Errorf("%d was drawn %d times", e, seen[e])
		}
	}
}

// TestEveryField alters each field and each row of programs alone, in each way.
func TestEveryField(t *testing.T) { // P15.1
	d := drawing(152)
	start := program(t, sample)
	for i := range places(reflect.ValueOf(&start).Elem()) {
		for range 12 {
			p := copied(start)
			d.alter(places(reflect.ValueOf(&p).Elem())[i])
			likeDefined(t, p)
		}
	}
}
