package observe_test

import (
	"slices"

	"synthesis/api"
	"synthesis/notation"
	"synthesis/statetest"
	"synthesis/value"
)

// program returns the term with this text, of the first symbol that has one.
func program(l api.Language, text string) api.Term {
	for symbol := range l.Symbols {
		if t, _, e := notation.Parse(l, symbol, text); e == api.OK {
			return t
		}
	}
	panic(text)
}

// programs returns the terms with these texts.
func programs(l api.Language, texts ...string) []api.Term {
	var list []api.Term
	for _, text := range texts {
		list = append(list, program(l, text))
	}
	return list
}

// A family is a language, and tuples that fit it.
type family struct {
	l      api.Language
	tuples [][]api.Value
}

func families() []family {
	var list []family
	for _, x := range statetest.Own() {
		list = append(list, family{x.Language, x.Tuples})
	}
	return list
}

// small returns the terms of all symbols up to a size.
func small(l api.Language, most int) []api.Term {
	var all []api.Term
	o := statetest.OracleOf(l)
	for size := 1; size <= most; size++ {
		for symbol := range l.Symbols {
			all = append(all, o.Terms(symbol, size)...)
		}
	}
	return all
}

// areSame reports whether two terms have the same outcomes.
func areSame(l api.Language, a, b api.Term, tuples [][]api.Value) bool {
	return slices.EqualFunc(statetest.Outcomes(l, a, tuples), statetest.Outcomes(l, b, tuples), func(x, y api.Outcome) bool {
		return x.Errno == y.Errno && value.Equal(x.Value, y.Value)
	})
}

// leaf returns the term of a rule without arguments.
func leaf(rule int) api.Term { return api.Term{Rule: rule} }

// nested returns the term with a rule above t on as many levels as wanted.
func nested(rule, levels int, t api.Term) api.Term {
	for range levels {
		t = api.Term{Rule: rule, Args: []api.Term{t}}
	}
	return t
}
