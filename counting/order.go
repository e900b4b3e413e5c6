package counting

import "synthesis/api"

// weights describes a place of a larger term whose rules before the place are given: a term that stands there occurs
// in as many larger terms as the weight of its size says. A size of which no term may stand there has the weight 0.
// In the order of terms, the larger terms that have the same term at the place follow each other.
type weights [api.MaxSize + 1]int64

// only returns the weights of the root of the terms that have one size.
func only(size int) weights {
	var w weights
	w[size] = 1
	return w
}

// block returns the number of larger terms that have, at a place with these weights, a term with the rule at its root.
func (c *counter) block(rule int, w weights) int64 {
	var n int64
	for size, weight := range w {
		if weight > 0 {
			n = sum(n, product(c.rooted(rule, size), weight))
		}
	}
	return n
}

// within returns the weights of the place of the first one of the last arguments of a rule, whose symbols are given:
// done is the number of rules from the given one up to this place, and w has the weights of the place of the rule.
func (c *counter) within(symbols []int, done int, w weights) weights {
	var inner weights
	first, rest := symbols[0], symbols[1:]
	restSizes := c.sizes.Sums(rest)
	for size := range inner {
		// The weights of other sizes do not matter, and could be too great.
		if !c.bySymbol[first].sizes.Has(size) {
			continue
		}
		for total := done + size; total <= api.MaxSize; total++ {
			restSize := total - done - size
			if w[total] > 0 && restSizes.Has(restSize) {
				inner[size] = sum(inner[size], product(c.tuples(rest, restSize), w[total]))
			}
		}
	}
	return inner
}

// term returns the term that the larger term number n has at a place of the symbol with these weights,
// and the number of the larger term among those that have the same term there.
func (c *counter) term(symbol int, n int64, w weights) (api.Term, int64) {
	rules := c.rulesOf[symbol]
	at := 0
	for length := c.block(rules[at], w); n >= length; length = c.block(rules[at], w) {
		n -= length
		at++
	}
	t := api.Term{Rule: rules[at]}
	symbols := c.rules[t.Rule].Args
	done := 1
	for i := range symbols {
		var arg api.Term
		arg, n = c.term(symbols[i], n, c.within(symbols[i:], done, w))
		t.Args = append(t.Args, arg)
		done += sizeOf(arg)
	}
	return t, n
}

// index returns the number of the first larger term that has t at a place with these weights.
func (c *counter) index(t api.Term, w weights) int64 {
	r := c.rules[t.Rule]
	var n int64
	for _, rule := range c.rulesOf[r.Symbol] {
		if rule < t.Rule {
			n += c.block(rule, w)
		}
	}
	done := 1
	for i, arg := range t.Args {
		n += c.index(arg, c.within(r.Args[i:], done, w))
		done += sizeOf(arg)
	}
	return n
}
