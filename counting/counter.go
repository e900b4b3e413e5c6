package counting

import (
	"synthesis/api"
	"synthesis/grammar"
)

// counter counts terms by their sizes.
type counter struct {
	rules    []api.Rule
	rulesOf  [][]int
	bySymbol []counts
	byRule   []counts
}

// counts has the numbers of terms of a symbol, or of terms with a rule at their root.
type counts struct {
	// sizes has the sizes of which there is a term.
	sizes sizeSet
	// known has the number for each size; 0 if there is no term, or if the number is not known yet.
	known [api.MaxSize + 1]int64
}

// at returns the number for a size, which compute computes when it is asked for. It is not computed before,
// since a number that is too great ends the counting, and must not do so where it does not matter.
func (k *counts) at(size int, compute func() int64) int64 {
	if k.sizes.has(size) && k.known[size] == 0 {
		k.known[size] = compute()
	}
	return k.known[size]
}

// newCounter returns a counter of the terms of a valid language.
func newCounter(l api.Language) *counter {
	c := &counter{rules: l.Rules, bySymbol: make([]counts, len(l.Symbols)), byRule: make([]counts, len(l.Rules))}
	for symbol := range len(l.Symbols) {
		c.rulesOf = append(c.rulesOf, grammar.Of(l, symbol))
	}
	c.findSizes()
	return c
}

// findSizes finds the sizes of which there are terms.
func (c *counter) findSizes() {
	root := sizeSet(0).with(1)
	// A round finds the sizes of terms with one level more, and a term has no more levels than rules.
	for range api.MaxSize {
		for i, r := range c.rules {
			sizes := c.sums(r.Args).plus(root)
			c.byRule[i].sizes = sizes
			c.bySymbol[r.Symbol].sizes |= sizes
		}
	}
}

// sums returns the sums of the sizes of terms, one for each symbol.
func (c *counter) sums(symbols []int) sizeSet {
	sums := sizeSet(0).with(0)
	for _, symbol := range symbols {
		sums = sums.plus(c.bySymbol[symbol].sizes)
	}
	return sums
}

// count returns the number of terms of a symbol from one size to another, or ErrMany.
func (c *counter) count(symbol, from, to int) (n int64, e api.Errno) {
	defer func() {
		if recover() != nil {
			n, e = 0, api.ErrMany
		}
	}()
	for size := from; size <= to; size++ {
		n = sum(n, c.terms(symbol, size))
	}
	return n, api.OK
}

// terms returns the number of terms of a symbol that have the size.
func (c *counter) terms(symbol, size int) int64 {
	return c.bySymbol[symbol].at(size, func() int64 {
		var n int64
		for _, rule := range c.rulesOf[symbol] {
			n = sum(n, c.rooted(rule, size))
		}
		return n
	})
}

// rooted returns the number of terms with the rule at their root that have the size.
func (c *counter) rooted(rule, size int) int64 {
	return c.byRule[rule].at(size, func() int64 {
		return c.tuples(c.rules[rule].Args, size-1)
	})
}

// tuples returns the number of tuples of terms, one for each symbol, whose sizes add up to total. There must be one.
func (c *counter) tuples(symbols []int, total int) int64 {
	if len(symbols) == 0 {
		return 1
	}
	var n int64
	first, rest := symbols[0], symbols[1:]
	restSizes := c.sums(rest)
	for size := range total + 1 {
		// Where one factor is 0, the other one must not end the counting.
		if c.bySymbol[first].sizes.has(size) && restSizes.has(total-size) {
			n = sum(n, product(c.terms(first, size), c.tuples(rest, total-size)))
		}
	}
	return n
}

// sum returns a + b for two numbers of terms. A sum that is too great ends the counting.
func sum(a, b int64) int64 {
	if a > api.MaxCount-b {
		panic(api.ErrMany)
	}
	return a + b
}

// product returns a * b for two numbers of terms, the second of which is not 0. A product that is too great ends the counting.
func product(a, b int64) int64 {
	if a > api.MaxCount/b {
		panic(api.ErrMany)
	}
	return a * b
}
