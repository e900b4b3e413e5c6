package propagate

import (
	"slices"

	"synthesis/api"
	"synthesis/inverse"
)

// choices are what goals choose from.
type choices struct {
	// args is the number of arguments of the operator.
	args int
	// tuples has, for each output, the argument tuples for which the operator gives it.
	tuples [][][]api.Value
	// count is the number of goals.
	count int
}

// choicesOf returns the choices for the outputs of a rule with an invertible operator, or ErrMany if there are too many tuples for an output, or too many goals.
func choicesOf(r api.Rule, outputs []api.Value) (choices, api.Errno) {
	c := choices{args: len(r.Args), count: 1}
	isVain := false
	for _, v := range outputs {
		tuples, e := inverse.Tuples(r.Op, v)
		if e != api.OK {
			return choices{}, e
		}
		isVain = isVain || len(tuples) == 0
		// Beyond the limit there are too many goals, or none if one of the outputs has no tuples.
		if !isVain && c.count <= api.MaxInverse {
			c.tuples = append(c.tuples, tuples)
			c.count *= len(tuples)
		}
	}
	if isVain {
		return choices{}, api.OK
	}
	if c.count > api.MaxInverse {
		return choices{}, api.ErrMany
	}
	return c, api.OK
}

// goal returns the goal number n: one list for each argument.
func (c choices) goal(n int) [][]api.Value {
	outputs := len(c.tuples)
	all := make([]api.Value, c.args*outputs)
	// The goals that differ in the choice for the last output alone come one after the other.
	for k, list := range slices.Backward(c.tuples) {
		for i, v := range list[n%len(list)] {
			all[i*outputs+k] = clone(v)
		}
		n /= len(list)
	}
	lists := make([][]api.Value, c.args)
	for i := range lists {
		// The lists are parts of one slice, each of which ends where the next one begins.
		lists[i] = all[i*outputs : (i+1)*outputs : (i+1)*outputs]
	}
	return lists
}

// clone returns a copy of v that shares no memory with it: a tuple is chosen by several goals.
func clone(v api.Value) api.Value {
	v.Items = slices.Clone(v.Items)
	for i, item := range v.Items {
		v.Items[i] = clone(item)
	}
	return v
}
