package propagate

import (
	"synthesis/api"
	"synthesis/grammar"
	"synthesis/inverse"
	"synthesis/states"
	"synthesis/value"
)

// checkRule checks a language, a rule that must have an invertible operator, and its outputs.
func checkRule(l api.Language, rule int, outputs []api.Value) api.Errno {
	if e := grammar.Check(l); e != api.OK {
		return e
	}
	if !isIndex(rule, len(l.Rules)) {
		return api.ErrRange
	}
	r := l.Rules[rule]
	if r.Kind != api.RuleOp {
		return api.ErrForm
	}
	if !inverse.Invertible(r.Op) {
		return api.ErrName
	}
	return checkValues(outputs, l.Symbols[r.Symbol].Type)
}

// checkOutputs checks a language, one of its symbols, and outputs of the symbol on tuples.
func checkOutputs(l api.Language, symbol int, outputs []api.Value, tuples [][]api.Value) api.Errno {
	if e := grammar.Check(l); e != api.OK {
		return e
	}
	if !isIndex(symbol, len(l.Symbols)) {
		return api.ErrRange
	}
	if len(outputs) != len(tuples) {
		return api.ErrSize
	}
	if e := checkValues(outputs, l.Symbols[symbol].Type); e != api.OK {
		return e
	}
	return states.CheckTuples(l, tuples)
}

// checkValues checks that values are valid, and of a type.
func checkValues(list []api.Value, t int) api.Errno {
	for _, v := range list {
		if e := value.Check(v); e != api.OK {
			return e
		}
		if v.Type != t {
			return api.ErrType
		}
	}
	return api.OK
}

func isIndex(i, count int) bool { return 0 <= i && i < count }
