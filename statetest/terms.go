package statetest

import (
	"slices"

	"synthesis/api"
	"synthesis/eval"
	"synthesis/term"
)

// An Oracle puts together all terms of a language, following the definitions. It knows those that it has put together before.
type Oracle struct {
	language api.Language
	known    map[[2]int][]api.Term
}

// OracleOf returns the oracle of a language.
func OracleOf(l api.Language) Oracle { return Oracle{l, map[[2]int][]api.Term{}} }

// Terms returns the terms of a symbol that have the size, in the order of terms.
func (o Oracle) Terms(symbol, size int) []api.Term {
	all, isKnown := o.known[[2]int{symbol, size}]
	if isKnown {
		return all
	}
	for rule, r := range o.language.Rules {
		if r.Symbol != symbol {
			continue
		}
		for _, args := range o.lists(r.Args, size-1) {
			all = append(all, api.Term{Rule: rule, Args: args})
		}
	}
	slices.SortFunc(all, func(a, b api.Term) int { return slices.Compare(term.Rules(a), term.Rules(b)) })
	o.known[[2]int{symbol, size}] = all
	return all
}

// UpTo returns the terms of a symbol up to a size, in the order of terms.
func (o Oracle) UpTo(symbol, most int) []api.Term {
	var all []api.Term
	for size := 1; size <= most; size++ {
		all = append(all, o.Terms(symbol, size)...)
	}
	return all
}

// lists returns the lists of terms, one of each symbol, whose sizes add up to total.
func (o Oracle) lists(symbols []int, total int) [][]api.Term {
	if len(symbols) == 0 && total == 0 {
		return [][]api.Term{nil}
	}
	if len(symbols) == 0 {
		return nil
	}
	var all [][]api.Term
	for size := 1; size <= total; size++ {
		for _, first := range o.Terms(symbols[0], size) {
			for _, others := range o.lists(symbols[1:], total-size) {
				all = append(all, append([]api.Term{first}, others...))
			}
		}
	}
	return all
}

// Outcomes returns the outcomes of a term on tuples, which are found one by one.
func Outcomes(l api.Language, t api.Term, tuples [][]api.Value) []api.Outcome {
	var list []api.Outcome
	for _, tuple := range tuples {
		v, e := eval.Run(l, t, tuple)
		list = append(list, api.Outcome{Value: v, Errno: e})
	}
	return list
}

// Key returns the key of these outcomes.
func Key(l api.Language, t api.Term, tuples [][]api.Value) string {
	return eval.Key(Outcomes(l, t, tuples))
}
