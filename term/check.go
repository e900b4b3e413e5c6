package term

import (
	"synthesis/api"
	"synthesis/grammar"
)

// Check returns OK if t is a derivation from a symbol.
func Check(l api.Language, symbol int, t api.Term) api.Errno {
	if e := grammar.Check(l); e != api.OK {
		return e
	}
	if !isIndex(symbol, len(l.Symbols)) {
		return api.ErrRange
	}
	if !isWithinLimits(t) {
		return api.ErrSize
	}
	return checkRules(l.Rules, symbol, t)
}

// isWithinLimits reports whether t has at most MaxTerms rules and at most MaxDepth levels.
func isWithinLimits(t api.Term) bool {
	size := 0
	// The rules are counted only up to the limit, so that this ends for a term that contains itself, too. Such a term has no depth.
	for range preorder(t) {
		size++
		if size > api.MaxTerms {
			return false
		}
	}
	return Depth(t) <= api.MaxDepth
}

// checkRules returns the error of the first subterm in preorder that has one, or OK. The symbol is the one that t must have.
func checkRules(rules []api.Rule, symbol int, t api.Term) api.Errno {
	if !isIndex(t.Rule, len(rules)) {
		return api.ErrRange
	}
	r := rules[t.Rule]
	if r.Symbol != symbol {
		return api.ErrType
	}
	if len(t.Args) != len(r.Args) {
		return api.ErrForm
	}
	for i, arg := range t.Args {
		if e := checkRules(rules, r.Args[i], arg); e != api.OK {
			return e
		}
	}
	return api.OK
}
