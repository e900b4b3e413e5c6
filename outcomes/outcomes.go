// Package outcomes builds outcome graphs (DOC.md, Terms), which tell the programs of version spaces apart by their outcomes. It is no layer.
package outcomes

import (
	"synthesis/api"
	"synthesis/graph"
	"synthesis/states"
)

// A State of an outcome graph stands for the terms of a state of the subset graph that have a list of outcomes.
type State struct {
	// Node has the symbol and the size of the terms, and options in ascending order, whose Args are states that precede this one.
	api.Node
	states.Row
	// IsRoot tells whether the terms are programs of the version space.
	IsRoot bool
}

// Of returns the outcome graph of a version space of a valid language, and of tuples that fit it, with its states in ascending order of size. It returns ErrLimit if the graph is not within the limits.
func Of(l api.Language, s api.Space, tuples [][]api.Value) ([]State, api.Errno) {
	subsets, e := graph.Of(s)
	if e != api.OK {
		return nil, e
	}
	b := builder{rows: states.RowsOf(l, tuples, states.Operators(l))}
	for _, x := range subsets {
		if !b.divide(x, x.HasAny(s.Roots, 0)) {
			return nil, api.ErrLimit
		}
	}
	return b.states, api.OK
}
