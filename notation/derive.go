package notation

import (
	"synthesis/api"
	"synthesis/value"
)

// firstTerms returns for each symbol of a valid language that has a term with the text of x the first such term in the order of terms.
// All of these terms have the same size, and so have their arguments. Therefore the least rule at the root comes first, and then the first terms as its arguments.
func firstTerms(l api.Language, x expression) map[int]api.Term {
	var args []map[int]api.Term
	for _, arg := range x.args {
		args = append(args, firstTerms(l, arg))
	}
	first := map[int]api.Term{}
	for i, r := range l.Rules {
		if _, isKnown := first[r.Symbol]; isKnown || !hasRoot(r, x.root) {
			continue
		}
		if t, isThere := firstRooted(i, r, args); isThere {
			first[r.Symbol] = t
		}
	}
	return first
}

// hasRoot reports whether r and the root of an expression have the same text, apart from the arguments.
func hasRoot(r, root api.Rule) bool {
	return r.Kind == root.Kind && r.Input == root.Input && r.Op == root.Op && value.Equal(r.Const, root.Const)
}

// firstRooted returns the first term with the rule r, which has the index i, at its root. The first terms of its arguments are given for each symbol.
func firstRooted(i int, r api.Rule, args []map[int]api.Term) (api.Term, bool) {
	t := api.Term{Rule: i}
	for k, symbol := range r.Args {
		arg, isThere := args[k][symbol]
		if !isThere {
			return api.Term{}, false
		}
		t.Args = append(t.Args, arg)
	}
	return t, true
}
