package statetest

import (
	"synthesis/api"
	"synthesis/spacetest"
)

// A Class is the programs up to a size that have the same outcomes on some tuples.
type Class struct {
	Outcomes []api.Outcome
	Programs spacetest.Set
}

// ClassesOf returns the classes of the programs up to a size, in the order of their first programs.
func ClassesOf(l api.Language, tuples [][]api.Value, most int) []Class {
	var classes []Class
	numbers := map[string]int{}
	for _, t := range OracleOf(l).UpTo(0, most) {
		key := Key(l, t, tuples)
		i, isKnown := numbers[key]
		if !isKnown {
			i = len(classes)
			numbers[key] = i
			classes = append(classes, Class{Outcomes(l, t, tuples), spacetest.Set{}})
		}
		classes[i].Programs[spacetest.Write(t)] = t
	}
	return classes
}

// Examples returns the examples that the programs of a class match, or false if one of their outcomes is undefined.
func (c Class) Examples(tuples [][]api.Value) ([]api.Example, bool) {
	var list []api.Example
	for k, o := range c.Outcomes {
		if o.Errno != api.OK {
			return nil, false
		}
		list = append(list, api.Example{Inputs: tuples[k], Output: o.Value})
	}
	return list, true
}
