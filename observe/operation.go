package observe

import (
	"synthesis/api"
	"synthesis/eval"
)

// operation returns the function that tells the outcomes of a rule with an operator, on as many tuples as count says, from those of its arguments.
// It runs a program that applies the operator to inputs: whole terms would evaluate the same arguments again and again, and this layer does not call that of the operators.
func operation(l api.Language, rule, count int) func(args [][]api.Outcome) []api.Outcome {
	r := l.Rules[rule]
	// The language of the program has the rules of its inputs, and then the rule of the operator.
	m := api.Language{Name: l.Name, Symbols: l.Symbols}
	program := api.Term{Rule: len(r.Args)}
	for i, symbol := range r.Args {
		m.Inputs = append(m.Inputs, l.Symbols[symbol].Type)
		m.Rules = append(m.Rules, api.Rule{Symbol: symbol, Kind: api.RuleInput, Input: i})
		program.Args = append(program.Args, api.Term{Rule: i})
	}
	m.Rules = append(m.Rules, r)
	return func(args [][]api.Outcome) []api.Outcome {
		outcomes := make([]api.Outcome, count)
		for k := range outcomes {
			outcomes[k] = run(m, program, args, k)
		}
		return outcomes
	}
}

// run returns the outcome of a program whose inputs are the outcomes of arguments on the tuple number k.
func run(l api.Language, program api.Term, args [][]api.Outcome, k int) api.Outcome {
	inputs := make([]api.Value, len(args))
	for i, arg := range args {
		if arg[k].Errno != api.OK {
			return api.Outcome{Errno: api.ErrUndefined}
		}
		inputs[i] = arg[k].Value
	}
	v, e := eval.Run(l, program, inputs)
	return api.Outcome{Value: v, Errno: e}
}
