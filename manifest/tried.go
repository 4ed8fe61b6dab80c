package manifest

import "pedigree/api"

// tried does what do does, up to the first error, which is a panic. Whatever else panics is a fault of the program, and goes on.
func tried(do func()) (e api.Errno) {
	defer func() {
		if p := recover(); p != nil {
			e = p.(api.Errno)
		}
	}()
	do()
	return api.OK
}

// answered is what get answers, or its first error.
func answered[T any](get func() T) (x T, e api.Errno) {
	e = tried(func() { x = get() })
	return x, e
}

// need panics with an error, if it is one.
func need(e api.Errno) {
	if e != api.OK {
		panic(e)
	}
}

// got is what a call answers, if there is no error beside it.
func got[T any](x T, e api.Errno) T {
	need(e)
	return x
}

// intact panics where bytes are none of a manifest.
func intact(is bool) {
	if !is {
		panic(api.ErrRot)
	}
}
