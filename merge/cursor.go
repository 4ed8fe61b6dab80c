// Package merge is layer 9: cursors over anything, and what is made of several.
package merge

// Cursor tells one thing after the other.
type Cursor[T any] interface {
	Next() (T, bool)
}

// Of is a cursor over a row.
func Of[T any](l ...T) Cursor[T] {
	rest := append([]T(nil), l...)
	return cursor(func() (x T, ok bool) {
		if len(rest) > 0 {
			x, ok, rest = rest[0], true, rest[1:]
		}
		return x, ok
	})
}

// All are all that a cursor tells from now on.
func All[T any](c Cursor[T]) func(yield func(T) bool) {
	rest := from(c)
	return func(yield func(T) bool) {
		for yield != nil {
			x, ok := rest.Next()
			if !ok || !yield(x) {
				return
			}
		}
	}
}

// Rest are all that a cursor tells from now on, as a row.
func Rest[T any](c Cursor[T]) []T {
	var l []T
	for x := range All(c) {
		l = append(l, x)
	}
	return l
}

// made is a cursor that tells what a function does, up to the first time that there is nothing more.
type made[T any] struct {
	tell func() (T, bool) // nil: that was so
}

// cursor is the one that tells what a function does.
func cursor[T any](tell func() (T, bool)) Cursor[T] {
	return &made[T]{tell}
}

// none is a cursor without elements.
func none[T any]() Cursor[T] {
	return &made[T]{}
}

// from is what a cursor tells from now on, whatever cursor it is: one that is nil tells nothing.
func from[T any](c Cursor[T]) made[T] {
	if c == nil {
		return made[T]{}
	}
	return made[T]{c.Next}
}

// Next is the next element, and whether there is one.
func (m *made[T]) Next() (T, bool) {
	if m != nil && m.tell != nil { // no function makes a nil one, but a caller may hold one
		if x, ok := told(m.tell); ok {
			return x, true
		}
		m.tell = nil // so that it is not called again, and what it keeps can go
	}
	var zero T
	return zero, false
}

// told is what a function tells. One that panics tells nothing: cursors and functions that are handed in may do so, Next may not.
func told[T any](tell func() (T, bool)) (x T, ok bool) {
	defer func() {
		_ = recover() // x and ok are not set yet
	}()
	return tell()
}

// source is a cursor that others are made of, with its head.
type source[T any] struct {
	made[T]      // what is behind the head
	head    T    // zero while it is not taken
	taken   bool // whether the head was taken, and is neither returned nor skipped since
}

// sourceOf is a cursor of which nothing was taken yet.
func sourceOf[T any](c Cursor[T]) *source[T] {
	return &source[T]{made: from(c)}
}

// peek is the head, and whether there is one. It stays the head.
func (s *source[T]) peek() (T, bool) {
	if !s.taken {
		s.head, s.taken = s.Next()
	}
	return s.head, s.taken
}

// take is the head, and whether there is one. It is the head no more.
func (s *source[T]) take() (T, bool) {
	x, ok := s.peek()
	var zero T
	s.head, s.taken = zero, false
	return x, ok
}
