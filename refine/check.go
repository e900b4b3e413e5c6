package refine

import (
	"synthesis/api"
	"synthesis/term"
)

// checkTerms checks that a list does not have too many elements, and that each of them is a term of the symbol of the rule at its root.
func checkTerms(l api.Language, list []api.Term) api.Errno {
	if len(list) > api.MaxTerms {
		return api.ErrSize
	}
	for _, t := range list {
		if !isIndex(t.Rule, len(l.Rules)) || term.Check(l, l.Rules[t.Rule].Symbol, t) != api.OK {
			return api.ErrForm
		}
	}
	return api.OK
}

func isIndex(i, count int) bool { return 0 <= i && i < count }
