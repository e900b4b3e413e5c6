package canon

import (
	"synthesis/api"
	"synthesis/graph"
)

// sides tells whether the terms of a state are programs of a first and of a second version space.
type sides struct{ isInFirst, isInSecond bool }

// sidesOf returns the sides of all states of the subset graph of two version spaces.
func sidesOf(a, b api.Space) ([]sides, api.Errno) {
	states, e := graph.Of(a, b)
	if e != api.OK {
		return nil, e
	}
	var list []sides
	for _, x := range states {
		list = append(list, sides{x.HasAny(a.Roots, 0), x.HasAny(b.Roots, len(a.Nodes))})
	}
	return list, api.OK
}
