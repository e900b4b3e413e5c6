// Package sizes finds the sizes that the terms of a language have, up to MaxSize, and the least ones. It is no layer: the layers that count, list and combine terms share it.
package sizes

import "synthesis/api"

// Table has the sizes of which there is a term, for each symbol, and for each rule at the root of the term.
type Table struct {
	BySymbol []Set
	ByRule   []Set
}

// Of returns the table of a valid language.
func Of(l api.Language) Table {
	t := Table{make([]Set, len(l.Symbols)), make([]Set, len(l.Rules))}
	for isGrowing := true; isGrowing; {
		isGrowing = t.grow(l.Rules)
	}
	return t
}

// grow adds the sizes of terms whose arguments have the sizes that are known, and reports whether there are new ones.
// A round finds at least the terms with one level more, and a term has no more levels than rules.
func (t Table) grow(rules []api.Rule) bool {
	root := Set(0).With(1)
	isGrowing := false
	for i, r := range rules {
		found := t.Sums(r.Args).Plus(root)
		isGrowing = isGrowing || found != t.ByRule[i]
		t.ByRule[i] = found
		t.BySymbol[r.Symbol] |= found
	}
	return isGrowing
}

// Sums returns the sums of the sizes of terms, one for each of the symbols.
func (t Table) Sums(symbols []int) Set {
	sums := Set(0).With(0)
	for _, symbol := range symbols {
		sums = sums.Plus(t.BySymbol[symbol])
	}
	return sums
}
