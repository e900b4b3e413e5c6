package grammar

import (
	"slices"

	"synthesis/api"
)

// Trim removes rules and symbols that no complete derivation from the start symbol uses, and returns the index of each remaining rule in l.
func Trim(l api.Language) (api.Language, []int, api.Errno) {
	if e := Check(l); e != api.OK {
		return api.Language{}, nil, e
	}
	hasTerm, isProductive := productive(l)
	if !hasTerm[0] {
		return api.Language{}, nil, api.ErrEmpty
	}
	occurs := reachable(l, isProductive)
	trimmed := api.Language{Name: l.Name, Inputs: slices.Clone(l.Inputs)}
	numbers := make([]int, len(l.Symbols))
	for i, s := range l.Symbols {
		if occurs[i] {
			numbers[i] = len(trimmed.Symbols)
			trimmed.Symbols = append(trimmed.Symbols, s)
		}
	}
	var kept []int
	for i, r := range l.Rules {
		if occurs[r.Symbol] && isProductive(r) {
			trimmed.Rules = append(trimmed.Rules, renumbered(r, numbers))
			kept = append(kept, i)
		}
	}
	return trimmed, kept, api.OK
}

// renumbered returns a copy of r that has for each symbol its number.
func renumbered(r api.Rule, numbers []int) api.Rule {
	r.Symbol = numbers[r.Symbol]
	r.Args = slices.Clone(r.Args)
	for i, arg := range r.Args {
		r.Args[i] = numbers[arg]
	}
	r.Const = clone(r.Const)
	return r
}

// clone returns a copy of v that shares no memory with it.
func clone(v api.Value) api.Value {
	v.Items = slices.Clone(v.Items)
	for i, item := range v.Items {
		v.Items[i] = clone(item)
	}
	return v
}
