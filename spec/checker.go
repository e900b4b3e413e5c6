package spec

import (
	"synthesis/api"
	"synthesis/domain"
	"synthesis/eval"
	"synthesis/formula"
	"synthesis/value"
)

// A program is a term of the start symbol with its language; both are valid.
// It is what the checkers of examples and of tuples have in common.
type program struct {
	language api.Language
	term     api.Term
}

// firstViolation returns a copy of the first tuple for which the program is undefined or its value is not accepted; accepts is given the number of the tuple.
func (p program) firstViolation(tuples [][]api.Value, accepts func(i int, v api.Value) bool) ([]api.Value, bool) {
	// There is no error: the term and the tuples have been checked.
	outcomes, _ := eval.Outcomes(p.language, p.term, tuples)
	for i, o := range outcomes {
		if o.Errno != api.OK || !accepts(i, o.Value) {
			return cloneAll(tuples[i]), true
		}
	}
	return nil, false
}

// An exampleChecker looks for an example that the program does not match.
type exampleChecker struct {
	program
	examples []api.Example
}

func (c exampleChecker) violation() ([]api.Value, bool) {
	tuples := make([][]api.Value, len(c.examples))
	for i, x := range c.examples {
		tuples[i] = x.Inputs
	}
	return c.firstViolation(tuples, func(i int, v api.Value) bool { return value.Equal(v, c.examples[i].Output) })
}

// A tupleChecker looks for a tuple of the domain for which the formula does not hold.
type tupleChecker struct {
	program
	formula api.Formula
	domain  api.Domain
}

func (c tupleChecker) violation() ([]api.Value, bool) {
	// There is no error: the domain has been checked.
	tuples, _ := domain.All(c.domain)
	return c.firstViolation(tuples, func(i int, v api.Value) bool { return formula.Holds(c.formula, tuples[i], v) })
}
