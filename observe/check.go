package observe

import (
	"synthesis/api"
	"synthesis/grammar"
	"synthesis/states"
	"synthesis/term"
)

// check checks a language, terms of any of its symbols, and tuples.
func check(l api.Language, list []api.Term, tuples [][]api.Value) api.Errno {
	if e := grammar.Check(l); e != api.OK {
		return e
	}
	for _, t := range list {
		if e := checkTerm(l, t); e != api.OK {
			return e
		}
	}
	return states.CheckTuples(l, tuples)
}

func checkTerm(l api.Language, t api.Term) api.Errno {
	if !isIndex(t.Rule, len(l.Rules)) {
		return api.ErrRange
	}
	return term.Check(l, l.Rules[t.Rule].Symbol, t)
}

// checkBound checks a language, one of its symbols, a bound on sizes, and tuples.
func checkBound(l api.Language, symbol, most int, tuples [][]api.Value) api.Errno {
	if e := grammar.Check(l); e != api.OK {
		return e
	}
	if !isIndex(symbol, len(l.Symbols)) {
		return api.ErrRange
	}
	if e := states.CheckBound(most); e != api.OK {
		return e
	}
	return states.CheckTuples(l, tuples)
}

func isIndex(i, count int) bool { return 0 <= i && i < count }
