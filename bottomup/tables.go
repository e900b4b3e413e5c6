package bottomup

import (
	"synthesis/api"
	"synthesis/eval"
	"synthesis/operator"
)

// tables has the rules of a valid language, and the tuples on which they have outcomes.
type tables struct {
	language api.Language
	tuples   [][]api.Value
}

// outcomes returns the outcomes of the terms with a rule at their root whose arguments belong to these classes.
func (t tables) outcomes(rule int, args []*class) []api.Outcome {
	r := t.language.Rules[rule]
	if r.Kind != api.RuleOp {
		// There is no error: the rule is a term, and the tuples have been checked.
		outcomes, _ := eval.Outcomes(t.language, api.Term{Rule: rule}, t.tuples)
		return outcomes
	}
	outcomes := make([]api.Outcome, len(t.tuples))
	for k := range outcomes {
		outcomes[k] = apply(r.Op, args, k)
	}
	return outcomes
}

// apply returns the outcome of an operator for the outcomes of its arguments on the tuple number k.
func apply(op string, args []*class, k int) api.Outcome {
	values := make([]api.Value, len(args))
	for i, arg := range args {
		if arg.outcomes[k].Errno != api.OK {
			return api.Outcome{Errno: api.ErrUndefined}
		}
		values[i] = arg.outcomes[k].Value
	}
	v, e := operator.Apply(op, values)
	return api.Outcome{Value: v, Errno: e}
}
