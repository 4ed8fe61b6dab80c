package cache

import "iter"

// place is where an element of a list stands, between two others.
type place[E any] struct {
	elem   E
	before *place[E]
	behind *place[E]
}

// list is elements in order. Its places are a ring: the one that holds no element is ahead of the first and behind the last.
type list[E any] struct {
	end *place[E]
}

// emptyList is a list without elements.
func emptyList[E any]() list[E] {
	end := new(place[E])
	end.before, end.behind = end, end
	return list[E]{end}
}

// lead puts a place, which is in no list, ahead of all others.
func (l list[E]) lead(p *place[E]) {
	p.before, p.behind = l.end, l.end.behind
	p.before.behind, p.behind.before = p, p
}

// leave takes a place out of its list.
func (p *place[E]) leave() {
	p.before.behind, p.behind.before = p.behind, p.before
}

// last is the place behind all others, of a list that has one.
func (l list[E]) last() *place[E] {
	return l.end.before
}

// places are those of a list, the first one ahead. Each may leave when its turn has come.
func (l list[E]) places() iter.Seq[*place[E]] {
	return func(yield func(*place[E]) bool) {
		for p := l.end.behind; p != l.end; {
			next := p.behind
			if !yield(p) {
				return
			}
			p = next
		}
	}
}
