package merge

// Both tells those of a that b tells, too.
func Both[T any](compare func(a, b T) int, a, b Cursor[T]) Cursor[T] {
	return among(compare, a, b, true)
}

// Less tells those of a that b does not tell.
func Less[T any](compare func(a, b T) int, a, b Cursor[T]) Cursor[T] {
	return among(compare, a, b, false)
}

// among tells those of a that b tells, or those that it does not.
func among[T any](compare func(a, b T) int, a, b Cursor[T], there bool) Cursor[T] {
	if compare == nil {
		return none[T]()
	}
	other := sourceOf(b)
	return Only(func(x T) bool { return tells(compare, other, x) == there }, a)
}

// tells tells whether a source has the like of x behind all that precede it, which are skipped.
func tells[T any](compare func(a, b T) int, s *source[T], x T) bool {
	for {
		y, ok := s.peek()
		if !ok {
			return false
		}
		if stands := compare(y, x); stands >= 0 {
			return stands == 0
		}
		s.take()
	}
}

// Only tells those for which something holds.
func Only[T any](holds func(x T) bool, c Cursor[T]) Cursor[T] {
	if holds == nil {
		return none[T]()
	}
	all := All(c)
	return cursor(func() (x T, ok bool) {
		for x := range all {
			if holds(x) {
				return x, true
			}
		}
		return x, false
	})
}

// First tells at most so many.
func First[T any](n int, c Cursor[T]) Cursor[T] {
	rest := from(c)
	return cursor(func() (x T, ok bool) {
		if n < 1 {
			return x, false
		}
		n--
		return rest.Next()
	})
}

// Turn tells what is made of each.
func Turn[T, U any](turn func(x T) U, c Cursor[T]) Cursor[U] {
	if turn == nil {
		return none[U]()
	}
	rest := from(c)
	return cursor(func() (y U, ok bool) {
		x, ok := rest.Next()
		if !ok {
			return y, false
		}
		return turn(x), true
	})
}
