package bottomup

import (
	"synthesis/api"
	"synthesis/eval"
	"synthesis/grammar"
)

// check checks a language, tuples and a bound on sizes.
func check(l api.Language, tuples [][]api.Value, most int) api.Errno {
	if e := grammar.Check(l); e != api.OK {
		return e
	}
	for _, tuple := range tuples {
		if e := eval.Inputs(l, tuple); e != api.OK {
			return e
		}
	}
	return checkBound(most)
}

func checkBound(most int) api.Errno {
	if most < 1 || most > api.MaxSize {
		return api.ErrRange
	}
	return api.OK
}
