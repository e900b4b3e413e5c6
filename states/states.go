// Package states builds state graphs (DOC.md, Terms). It is no layer: the layers that tell the terms of a language apart by their outcomes share it.
package states

import "synthesis/api"

// A State stands for the terms of a symbol that have a size and a list of outcomes.
type State struct {
	// Node has the symbol and the size of the terms, and options in ascending order, whose Args are states that precede this one.
	api.Node
	Row
}

// Of returns the state graph of a valid language, tuples that fit it, and a bound from 1 to MaxSize, with its states in ascending order of size. It returns ErrLimit if the graph is not within the limits.
func Of(l api.Language, tuples [][]api.Value, most int, apply Operation) ([]State, api.Errno) {
	b := newBuilder(l, tuples, apply)
	for size := 1; size <= most; size++ {
		if !b.growTo(size) {
			return nil, api.ErrLimit
		}
	}
	return b.states, api.OK
}

// Required returns the inputs of examples, and the key of the outcomes that a program has on them if it matches all examples.
func Required(list []api.Example) ([][]api.Value, string) {
	var tuples [][]api.Value
	var outputs []api.Value
	for _, x := range list {
		tuples = append(tuples, x.Inputs)
		outputs = append(outputs, x.Output)
	}
	return tuples, KeyOf(outputs)
}
