package observe

import (
	"iter"

	"synthesis/api"
	"synthesis/eval"
	"synthesis/sizes"
)

// A state stands for the terms of a symbol that have a size and a list of outcomes, of which it has the number.
type state struct{ symbol, size, outcomes int }

// A graph is the part of the state graph of a language and of tuples whose states have at most a size.
type graph struct {
	language api.Language
	tuples   [][]api.Value
	sizes    sizes.Table
	// numbers has the numbers of lists of outcomes by their keys, and lists has these lists by their numbers.
	numbers numbering[string]
	lists   [][]api.Outcome
	isState map[state]bool
	// states has the lists of outcomes of the states, for each symbol and size.
	states  [][api.MaxSize + 1][]int
	options int
}

// build returns the state graph up to a size, or ErrLimit if it is not within the limits.
func build(l api.Language, tuples [][]api.Value, most int) (*graph, api.Errno) {
	g := &graph{
		language: l,
		tuples:   tuples,
		sizes:    sizes.Of(l),
		numbers:  numbering[string]{},
		isState:  map[state]bool{},
		states:   make([][api.MaxSize + 1][]int, len(l.Symbols)),
	}
	for size := 1; size <= most; size++ {
		// If there are too many options, none of them needs to be evaluated.
		if !g.countOptions(size) {
			return nil, api.ErrLimit
		}
		for rule := range l.Rules {
			if !g.apply(rule, size) {
				return nil, api.ErrLimit
			}
		}
	}
	return g, api.OK
}

// countOptions adds the options that belong to states of a size to the number of options, and reports whether it is within the limit.
func (g *graph) countOptions(size int) bool {
	for _, r := range g.language.Rules {
		for range g.arguments(r.Args, size-1) {
			g.options++
			if g.options > api.MaxOptions {
				return false
			}
		}
	}
	return true
}

// apply adds the states of a size to which options of a rule belong, and reports whether their number is within the limit. All smaller states must be there.
func (g *graph) apply(rule, size int) bool {
	r := g.language.Rules[rule]
	outcomes := g.meaning(rule)
	for args := range g.arguments(r.Args, size-1) {
		g.add(r.Symbol, size, outcomes(args))
		if len(g.isState) > api.MaxNodes {
			return false
		}
	}
	return true
}

// meaning returns the function that tells the outcomes of a term with the rule at its root from those of its arguments.
func (g *graph) meaning(rule int) func(args [][]api.Outcome) []api.Outcome {
	if g.language.Rules[rule].Kind == api.RuleOp {
		return operation(g.language, rule, len(g.tuples))
	}
	return func([][]api.Outcome) []api.Outcome {
		outcomes, _ := eval.Outcomes(g.language, api.Term{Rule: rule}, g.tuples)
		return outcomes
	}
}

// add adds a state, unless it is there.
func (g *graph) add(symbol, size int, outcomes []api.Outcome) {
	number := g.numbers.of(eval.Key(outcomes))
	if number == len(g.lists) {
		g.lists = append(g.lists, outcomes)
	}
	s := state{symbol, size, number}
	if !g.isState[s] {
		g.isState[s] = true
		g.states[symbol][size] = append(g.states[symbol][size], number)
	}
}

// arguments yields the outcomes of states of the symbols whose sizes add up to total, for all such states. What it yields is valid until it goes on.
func (g *graph) arguments(symbols []int, total int) iter.Seq[[][]api.Outcome] {
	return func(yield func([][]api.Outcome) bool) {
		g.choose(nil, symbols, total, yield)
	}
}

// choose yields the lists that begin with the chosen outcomes, until yield returns false, and reports whether it did not.
func (g *graph) choose(chosen [][]api.Outcome, symbols []int, total int, yield func([][]api.Outcome) bool) bool {
	if len(symbols) == 0 {
		return total != 0 || yield(chosen)
	}
	first, rest := symbols[0], symbols[1:]
	restSizes := g.sizes.Sums(rest)
	for size := range total + 1 {
		// Where the rest has no states, many choices would be in vain.
		if !restSizes.Has(total - size) {
			continue
		}
		for _, number := range g.states[first][size] {
			if !g.choose(append(chosen, g.lists[number]), rest, total-size, yield) {
				return false
			}
		}
	}
	return true
}

// count returns the number of lists of outcomes that the terms of a symbol have.
func (g *graph) count(symbol int) int {
	isFound := map[int]bool{}
	for _, numbers := range g.states[symbol] {
		for _, number := range numbers {
			isFound[number] = true
		}
	}
	return len(isFound)
}
