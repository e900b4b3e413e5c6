package canon

import (
	"synthesis/api"
	"synthesis/graph"
)

// subsets returns the subset graph of version spaces, or an error if they are not well-formed, do not fit together, or have too large a graph.
func subsets(spaces ...api.Space) ([]graph.State, api.Errno) {
	if !graph.AreWellFormed(spaces...) {
		return nil, api.ErrForm
	}
	return graph.Subsets(graph.Limits{States: api.MaxNodes, Options: api.MaxOptions}, spaces...)
}

// sides tells whether the terms of a state are programs of a first and of a second version space.
type sides struct{ isInFirst, isInSecond bool }

// sidesOf returns the sides of all states of the subset graph of two version spaces.
func sidesOf(a, b api.Space) ([]sides, api.Errno) {
	states, e := subsets(a, b)
	if e != api.OK {
		return nil, e
	}
	// The nodes of b are counted on from those of a.
	var rootsOfB []int
	for _, root := range b.Roots {
		rootsOfB = append(rootsOfB, root+len(a.Nodes))
	}
	var list []sides
	for _, x := range states {
		list = append(list, sides{x.HasAny(a.Roots), x.HasAny(rootsOfB)})
	}
	return list, api.OK
}
