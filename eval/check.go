package eval

import (
	"synthesis/api"
	"synthesis/grammar"
	"synthesis/term"
	"synthesis/value"
)

// Inputs returns OK if the tuple fits the inputs of the language.
func Inputs(l api.Language, inputs []api.Value) api.Errno {
	if e := grammar.Check(l); e != api.OK {
		return e
	}
	return checkTuple(l.Inputs, inputs)
}

// checkTuple checks that the tuple has one valid value of each of the types.
func checkTuple(types []int, tuple []api.Value) api.Errno {
	if len(tuple) != len(types) {
		return api.ErrSize
	}
	for i, v := range tuple {
		if e := value.Check(v); e != api.OK {
			return e
		}
		if v.Type != types[i] {
			return api.ErrType
		}
	}
	return api.OK
}

// checkTerm checks that t is a term of a symbol of the language.
func checkTerm(l api.Language, t api.Term) api.Errno {
	if isIndex(t.Rule, len(l.Rules)) {
		// This checks the language too, and does so first.
		return term.Check(l, l.Rules[t.Rule].Symbol, t)
	}
	if e := grammar.Check(l); e != api.OK {
		return e
	}
	return api.ErrRange
}

func isIndex(i, count int) bool { return 0 <= i && i < count }
