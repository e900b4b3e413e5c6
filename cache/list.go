package cache

import "iter"

// A list has elements in an order, and moves each of them in constant time.
// They form a ring, in which one more element, the end, stands after the last one and before the first one.
type list[T any] struct{ end *element[T] }

// An element stands between two others of its list.
type element[T any] struct {
	content       T
	before, after *element[T]
}

func newList[T any]() list[T] {
	end := &element[T]{}
	end.before, end.after = end, end
	return list[T]{end}
}

// putFirst makes an element that is in no list the first one.
func (l list[T]) putFirst(e *element[T]) {
	e.before, e.after = l.end, l.end.after
	e.before.after, e.after.before = e, e
}

// last returns the last element. There must be one.
func (l list[T]) last() *element[T] { return l.end.before }

// all yields what the elements have, from the first one to the last one.
func (l list[T]) all() iter.Seq[T] {
	return func(yield func(T) bool) {
		for e := l.end.after; e != l.end; e = e.after {
			if !yield(e.content) {
				return
			}
		}
	}
}

// remove takes an element out of its list.
func (e *element[T]) remove() {
	e.before.after, e.after.before = e.after, e.before
}
