package counting

import (
	"synthesis/api"
	"synthesis/grammar"
	"synthesis/sizes"
)

// counter counts terms by their sizes.
type counter struct {
	rules    []api.Rule
	rulesOf  [][]int
	sizes    sizes.Table
	bySymbol []counts
	byRule   []counts
}

// counts has the numbers of terms of a symbol, or of terms with a rule at their root.
type counts struct {
	// sizes has the sizes of which there is a term.
	sizes sizes.Set
	// known has the number for each size; 0 if there is no term, or if the number is not known yet.
	known [api.MaxSize + 1]int64
}

// at returns the number for a size, which compute computes when it is asked for. It is not computed before,
// since a number that is too great ends the counting, and must not do so where it does not matter.
func (k *counts) at(size int, compute func() int64) int64 {
	if k.sizes.Has(size) && k.known[size] == 0 {
		k.known[size] = compute()
	}
	return k.known[size]
}

// newCounter returns a counter of the terms of a valid language.
func newCounter(l api.Language) *counter {
	c := &counter{rules: l.Rules, sizes: sizes.Of(l)}
	for symbol := range len(l.Symbols) {
		c.rulesOf = append(c.rulesOf, grammar.Of(l, symbol))
		c.bySymbol = append(c.bySymbol, counts{sizes: c.sizes.BySymbol[symbol]})
	}
	for rule := range len(l.Rules) {
		c.byRule = append(c.byRule, counts{sizes: c.sizes.ByRule[rule]})
	}
	return c
}

// count returns the number of terms of a symbol from one size to another, or ErrMany.
func (c *counter) count(symbol, from, to int) (n int64, e api.Errno) {
	defer func() {
		if recover() != nil {
			n, e = 0, api.ErrMany
		}
	}()
	for size := from; size <= to; size++ {
		n = sum(n, c.terms(symbol, size))
	}
	return n, api.OK
}

// terms returns the number of terms of a symbol that have the size.
func (c *counter) terms(symbol, size int) int64 {
	return c.bySymbol[symbol].at(size, func() int64 {
		var n int64
		for _, rule := range c.rulesOf[symbol] {
			n = sum(n, c.rooted(rule, size))
		}
		return n
	})
}

// rooted returns the number of terms with the rule at their root that have the size.
func (c *counter) rooted(rule, size int) int64 {
	return c.byRule[rule].at(size, func() int64 {
		return c.tuples(c.rules[rule].Args, size-1)
	})
}

// tuples returns the number of tuples of terms, one for each symbol, whose sizes add up to total. There must be one.
func (c *counter) tuples(symbols []int, total int) int64 {
	if len(symbols) == 0 {
		return 1
	}
	var n int64
	first, rest := symbols[0], symbols[1:]
	restSizes := c.sizes.Sums(rest)
	for size := range total + 1 {
		// Where one factor is 0, the other one must not end the counting.
		if c.bySymbol[first].sizes.Has(size) && restSizes.Has(total-size) {
			n = sum(n, product(c.terms(first, size), c.tuples(rest, total-size)))
		}
	}
	return n
}

// sum returns a + b for two numbers of terms. A sum that is too great ends the counting.
func sum(a, b int64) int64 {
	if a > api.MaxCount-b {
		panic(api.ErrMany)
	}
	return a + b
}

// product returns a * b for two numbers of terms, the second of which is not 0. A product that is too great ends the counting.
func product(a, b int64) int64 {
	if a > api.MaxCount/b {
		panic(api.ErrMany)
	}
	return a * b
}
