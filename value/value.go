// Package value is layer 1: ints and symbols, their order, and their text.
package value

import (
	"cmp"
	"slices"
	"sort"

	"pedigree/api"
)

// Check tells whether a value may be.
func Check(v api.Value) api.Errno {
	switch v.Kind {
	case api.VInt:
		if v.S == "" {
			return api.OK
		}
	case api.VSym:
		if v.N == 0 && len(v.S) <= api.MaxSym {
			return api.OK
		}
	}
	return api.ErrValue
}

// Type is a value's type.
func Type(v api.Value) (api.Type, api.Errno) {
	if e := Check(v); e != api.OK {
		return 0, e
	}
	if v.Kind == api.VInt {
		return api.TInt, api.OK
	}
	return api.TSym, api.OK
}

// Compare tells which stands first: it orders any two values, also those that may not be.
func Compare(a, b api.Value) int {
	if c := cmp.Compare(a.Kind, b.Kind); c != 0 {
		return c
	}
	if c := cmp.Compare(a.N, b.N); c != 0 {
		return c
	}
	return cmp.Compare(a.S, b.S)
}

// Holds tells whether two stand so to one another.
func Holds(op api.CmpOp, a, b api.Value) (bool, api.Errno) {
	c := Compare(a, b)
	switch op {
	case api.CEq:
		return c == 0, api.OK
	case api.CNe:
		return c != 0, api.OK
	case api.CLe:
		if c == 0 {
			return true, api.OK
		}
		fallthrough
	case api.CLt:
		return c < 0, api.OK
	case api.CGe:
		if c == 0 {
			return true, api.OK
		}
		fallthrough
	case api.CGt:
		return c > 0, api.OK
	}
	return false, api.ErrArg
}

// Sorted are values, rising, each once.
func Sorted(l ...api.Value) []api.Value {
	// The caller's own row may come in as l: it must stay as it is.
	out := slices.Clone(l)
	sort.Slice(out, func(i, j int) bool { return Compare(out[i], out[j]) < 0 })
	return slices.Compact(out)
}

// Place is how many of a row, rising or not, are below a value, and whether it is there.
func Place(l []api.Value, v api.Value) (int, bool) {
	below, there := 0, false
	for _, x := range l {
		switch Compare(x, v) {
		case -1:
			below++
		case 0:
			there = true
		}
	}
	return below, there
}
