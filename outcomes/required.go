package outcomes

import (
	"synthesis/api"
	"synthesis/domain"
	"synthesis/formula"
	"synthesis/value"
)

// Required returns the tuples on which a valid specification requires something, and a function that reports whether a program with these outcomes on them satisfies it.
func Required(p api.Spec) ([][]api.Value, func([]api.Outcome) bool) {
	var tuples [][]api.Value
	for _, x := range p.Examples {
		tuples = append(tuples, x.Inputs)
	}
	// There is no error: the domain is valid.
	all, _ := domain.All(p.Domain)
	tuples = append(tuples, all...)
	accepts := func(k int, v api.Value) bool {
		if k < len(p.Examples) {
			return value.Equal(v, p.Examples[k].Output)
		}
		return formula.Holds(p.Formula, tuples[k], v)
	}
	return tuples, func(row []api.Outcome) bool {
		for k, o := range row {
			if o.Errno != api.OK || !accepts(k, o.Value) {
				return false
			}
		}
		return true
	}
}
