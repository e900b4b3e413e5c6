package observe

import (
	"synthesis/api"
	"synthesis/eval"
	"synthesis/states"
)

// operation returns the function that tells the outcomes of the operators of a language.
// It runs programs that apply the operators to inputs, since this layer does not call that of the operators.
func operation(l api.Language) states.Operation {
	machines := make([]machine, len(l.Rules))
	for rule, r := range l.Rules {
		machines[rule] = machineOf(l, r)
	}
	return func(rule int, args []api.Value) api.Outcome {
		m := machines[rule]
		v, e := eval.Run(m.language, m.program, args)
		return api.Outcome{Value: v, Errno: e}
	}
}

// A machine is a program that applies an operator to the inputs of its language.
type machine struct {
	language api.Language
	program  api.Term
}

// machineOf returns the machine of a rule with an operator. Its language has the rules of the inputs, and then this rule.
func machineOf(l api.Language, r api.Rule) machine {
	m := machine{api.Language{Name: l.Name, Symbols: l.Symbols}, api.Term{Rule: len(r.Args)}}
	for i, symbol := range r.Args {
		m.language.Inputs = append(m.language.Inputs, l.Symbols[symbol].Type)
		m.language.Rules = append(m.language.Rules, api.Rule{Symbol: symbol, Kind: api.RuleInput, Input: i})
		m.program.Args = append(m.program.Args, api.Term{Rule: i})
	}
	m.language.Rules = append(m.language.Rules, r)
	return m
}
