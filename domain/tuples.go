package domain

import (
	"iter"
	"slices"

	"synthesis/api"
)

// tuples yields the tuples of a domain in order. Each of them is new memory.
func tuples(d api.Domain) iter.Seq[[]api.Value] {
	return func(yield func([]api.Value) bool) {
		if slices.ContainsFunc(d.Axes, isEmpty) {
			return
		}
		places := make([]int, len(d.Axes))
		for isLeft := true; isLeft; isLeft = advance(places, d.Axes) {
			if !yield(tupleAt(places, d.Axes)) {
				return
			}
		}
	}
}

// advance moves the places in the axes to the next tuple, and reports whether there is one.
func advance(places []int, axes [][]api.Value) bool {
	for i, axis := range slices.Backward(axes) {
		places[i]++
		if places[i] < len(axis) {
			return true
		}
		places[i] = 0
	}
	return false
}

func tupleAt(places []int, axes [][]api.Value) []api.Value {
	tuple := make([]api.Value, len(axes))
	for i, axis := range axes {
		tuple[i] = clone(axis[places[i]])
	}
	return tuple
}

func isEmpty(axis []api.Value) bool { return len(axis) == 0 }

// isLarge reports whether a domain has more tuples than may be listed.
func isLarge(d api.Domain) bool {
	size, e := Size(d)
	return e != api.OK || size > api.MaxDomain
}
