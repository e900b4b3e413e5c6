package states

import (
	"synthesis/api"
	"synthesis/eval"
	"synthesis/grammar"
)

// Check checks a language, tuples that must fit it, and a bound on sizes, in this order.
func Check(l api.Language, tuples [][]api.Value, most int) api.Errno {
	if e := CheckTuples(l, tuples); e != api.OK {
		return e
	}
	return CheckBound(most)
}

// CheckTuples checks a language, and tuples that must fit it.
func CheckTuples(l api.Language, tuples [][]api.Value) api.Errno {
	if e := grammar.Check(l); e != api.OK {
		return e
	}
	for _, tuple := range tuples {
		if e := eval.Inputs(l, tuple); e != api.OK {
			return e
		}
	}
	return api.OK
}

// CheckBound checks a bound on sizes.
func CheckBound(most int) api.Errno {
	if most < 1 || most > api.MaxSize {
		return api.ErrRange
	}
	return api.OK
}
