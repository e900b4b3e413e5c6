package grammar

import (
	"slices"

	"synthesis/api"
)

// Productive reports for each symbol whether it derives a term.
func Productive(l api.Language) []bool {
	if Check(l) != api.OK {
		return nil
	}
	hasTerm, _ := productive(l)
	return hasTerm
}

// Reachable reports for each symbol whether it occurs in a derivation from the start symbol.
func Reachable(l api.Language) []bool {
	if Check(l) != api.OK {
		return nil
	}
	return reachable(l, func(api.Rule) bool { return true })
}

// Recursive reports for each symbol whether it derives a term that contains another term of the symbol.
func Recursive(l api.Language) []bool {
	if Check(l) != api.OK {
		return nil
	}
	_, isProductive := productive(l)
	isRecursive := make([]bool, len(l.Symbols))
	for symbol := range len(l.Symbols) {
		isRecursive[symbol] = below(l, symbol, isProductive)[symbol]
	}
	return isRecursive
}

// productive reports for each symbol of a valid language whether it has a term, and returns a function that tells which rules are productive.
func productive(l api.Language) ([]bool, func(api.Rule) bool) {
	hasTerm := make([]bool, len(l.Symbols))
	hasNone := func(symbol int) bool { return !hasTerm[symbol] }
	isProductive := func(r api.Rule) bool { return !slices.ContainsFunc(r.Args, hasNone) }
	// A round that finds no symbol is followed by none that does, so there are enough rounds.
	for range len(l.Symbols) {
		for _, r := range l.Rules {
			if isProductive(r) {
				hasTerm[r.Symbol] = true
			}
		}
	}
	return hasTerm, isProductive
}

// reachable reports for each symbol of a valid language whether the start symbol leads to it by rules that count.
func reachable(l api.Language, counts func(api.Rule) bool) []bool {
	isReached := below(l, 0, counts)
	isReached[0] = true
	return isReached
}

// below reports for each symbol of a valid language whether the symbol top leads to it by one or more rules that count.
func below(l api.Language, top int, counts func(api.Rule) bool) []bool {
	isBelow := make([]bool, len(l.Symbols))
	// As in productive, there are enough rounds.
	for range len(l.Symbols) {
		for _, r := range l.Rules {
			if (r.Symbol == top || isBelow[r.Symbol]) && counts(r) {
				for _, arg := range r.Args {
					isBelow[arg] = true
				}
			}
		}
	}
	return isBelow
}
