package enumerate

import (
	"iter"
	"slices"

	"synthesis/api"
	"synthesis/grammar"
	"synthesis/sizes"
)

// terms yields the terms of a symbol from one size to another, in the order of terms. The terms of the first size
// begin with the one whose rules in preorder are least, or with the first one that comes after it. The language is valid.
func terms(l api.Language, symbol, from, to int, least []int) iter.Seq[api.Term] {
	return func(yield func(api.Term) bool) {
		w := newWalk(l, yield)
		root := w.before([]int{symbol}, nil)
		isWanted := w.extend(nil, root, from, least)
		for size := from + 1; size <= to && isWanted; size++ {
			isWanted = w.extend(nil, root, size, nil)
		}
	}
}

// A walk visits terms by choosing their rules in preorder, and yields them.
type walk struct {
	rules   []api.Rule
	rulesOf [][]int
	sizes   sizes.Table
	yield   func(api.Term) bool
}

func newWalk(l api.Language, yield func(api.Term) bool) *walk {
	w := &walk{rules: l.Rules, sizes: sizes.Of(l), yield: yield}
	for symbol := range l.Symbols {
		w.rulesOf = append(w.rulesOf, grammar.Of(l, symbol))
	}
	return w
}

// A need is a list of symbols, each of which still requires a term: the first one, and the rest. The empty list is nil.
type need struct {
	symbol int
	rest   *need
	// sizes has the sizes that terms of all the symbols have together.
	sizes sizes.Set
}

// before returns the list of these symbols, followed by rest.
func (w *walk) before(symbols []int, rest *need) *need {
	for _, symbol := range slices.Backward(symbols) {
		rest = &need{symbol, rest, w.sizes.BySymbol[symbol].Plus(rest.total())}
	}
	return rest
}

func (n *need) total() sizes.Set {
	if n == nil {
		return sizes.Set(0).With(0)
	}
	return n.sizes
}

// extend yields, in order, the terms whose rules in preorder are the chosen ones and as many further ones as count says,
// which do not precede those of least. It ends if the consumer wants no more, and reports whether it still wants some.
func (w *walk) extend(chosen []int, n *need, count int, least []int) bool {
	// Each choice that this permits leads to a term, so that none is made in vain.
	if !n.total().Has(count) {
		return true
	}
	if n == nil {
		t, _ := w.read(chosen)
		return w.yield(t)
	}
	for _, rule := range w.rulesOf[n.symbol] {
		leastRest, isPermitted := after(rule, least)
		if isPermitted && !w.extend(append(chosen, rule), w.before(w.rules[rule].Args, n.rest), count-1, leastRest) {
			return false
		}
	}
	return true
}

// after returns the rules that the rules after this one must not precede, and whether this one does not itself precede the first of least.
func after(rule int, least []int) ([]int, bool) {
	if len(least) == 0 || rule > least[0] {
		return nil, true
	}
	return least[1:], rule == least[0]
}

// read returns the term whose rules in preorder are the first ones of a list, and the rest of the list.
func (w *walk) read(list []int) (api.Term, []int) {
	t := api.Term{Rule: list[0]}
	list = list[1:]
	for range w.rules[t.Rule].Args {
		var arg api.Term
		arg, list = w.read(list)
		t.Args = append(t.Args, arg)
	}
	return t, list
}
