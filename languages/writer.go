package languages

import (
	"slices"

	"synthesis/api"
	"synthesis/operator"
	"synthesis/value"
)

// maxConstants is the greatest number of constants of one kind that a language takes.
const maxConstants = 16

// valuesOf returns the values of the elements of a list, which must be valid and different.
func valuesOf[A comparable](list []A, valueOf func(A) api.Value) ([]api.Value, api.Errno) {
	if len(list) > maxConstants {
		return nil, api.ErrSize
	}
	var values []api.Value
	for i, element := range list {
		v := valueOf(element)
		if e := value.Check(v); e != api.OK {
			return nil, e
		}
		if slices.Contains(list[:i], element) {
			return nil, api.ErrTwice
		}
		values = append(values, v)
	}
	return values, api.OK
}

// A writer extends a language by rules. Each type has at most one symbol in the language.
type writer struct {
	api.Language
}

// begin returns a writer of a language without rules that has one input.
func begin(name string, input int, symbols ...api.Symbol) writer {
	return writer{api.Language{Name: name, Inputs: []int{input}, Symbols: symbols}}
}

// derive adds the rules of a symbol, whose kinds follow each other from the first kind on: the input, the constants, and the operators.
func (w *writer) derive(symbol, first int, constants []api.Value, operators ...string) {
	switch first {
	case api.RuleInput:
		w.Rules = append(w.Rules, api.Rule{Symbol: symbol, Kind: api.RuleInput})
		fallthrough
	case api.RuleConst:
		for _, c := range constants {
			w.Rules = append(w.Rules, api.Rule{Symbol: symbol, Kind: api.RuleConst, Const: c})
		}
		fallthrough
	case api.RuleOp:
		for _, op := range operators {
			w.Rules = append(w.Rules, api.Rule{Symbol: symbol, Kind: api.RuleOp, Op: op, Args: w.args(op)})
		}
	}
}

// args returns the symbols of the types of an operator's arguments.
func (w *writer) args(op string) []int {
	o, _ := operator.Find(op)
	symbols := make([]int, len(o.Args))
	for i, t := range o.Args {
		symbols[i] = slices.IndexFunc(w.Symbols, func(s api.Symbol) bool { return s.Type == t })
	}
	return symbols
}
