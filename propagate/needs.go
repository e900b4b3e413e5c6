package propagate

import (
	"cmp"
	"math"
	"slices"

	"synthesis/api"
	"synthesis/inverse"
	"synthesis/sizes"
	"synthesis/states"
	"synthesis/value"
)

// infinite is greater than all other needs, and so small that the need of a term with all arguments infinite can be computed. The least size of a term is far smaller, since there are few symbols.
const infinite = math.MaxInt / (2 * api.MaxArgs)

// An estimate finds needs for the outputs on some tuples.
type estimate struct {
	tuples [][]api.Value
	// least has the need of depth 0 of each symbol.
	least []int
	// rules has the rules of each symbol, those with smaller terms first.
	rules [][]api.Rule
	known map[question]int
}

// A question asks for the need of a depth of a symbol, for the outputs with a key.
type question struct {
	symbol, depth int
	outputs       string
}

func newEstimate(l api.Language, tuples [][]api.Value) *estimate {
	x := &estimate{tuples: tuples, least: sizes.Least(l), known: map[question]int{}}
	for symbol, size := range x.least {
		if size == 0 {
			x.least[symbol] = infinite
		}
	}
	x.rules = make([][]api.Rule, len(l.Symbols))
	for _, r := range l.Rules {
		x.rules[r.Symbol] = append(x.rules[r.Symbol], r)
	}
	for _, rules := range x.rules {
		slices.SortStableFunc(rules, func(a, b api.Rule) int { return cmp.Compare(x.leastOf(a), x.leastOf(b)) })
	}
	return x
}

// need returns the need of a depth of a symbol.
func (x *estimate) need(symbol int, outputs []api.Value, depth int) int {
	if depth == 0 {
		return x.least[symbol]
	}
	q := question{symbol, depth, states.KeyOf(outputs)}
	if need, isKnown := x.known[q]; isKnown {
		return need
	}
	need := infinite
	for _, r := range x.rules[symbol] {
		// No rule gives less than its least term has, and neither do those that follow.
		if x.leastOf(r) >= need {
			break
		}
		need = min(need, x.byRule(r, outputs, depth))
	}
	x.known[q] = need
	return need
}

// leastOf returns the least size of a term with the rule at its root, or infinite.
func (x *estimate) leastOf(r api.Rule) int {
	size := 1
	for _, symbol := range r.Args {
		size += x.least[symbol]
	}
	return min(size, infinite)
}

// byRule returns the number that a rule gives for a depth that is not 0.
func (x *estimate) byRule(r api.Rule, outputs []api.Value, depth int) int {
	if r.Kind != api.RuleOp {
		return x.byLeaf(r, outputs)
	}
	if !inverse.Invertible(r.Op) {
		return x.leastOf(r)
	}
	c, e := choicesOf(r, outputs)
	if e != api.OK {
		return x.leastOf(r)
	}
	need := infinite
	for n := range c.count {
		need = min(need, x.byGoal(r, c.goal(n), depth))
		if need == x.leastOf(r) {
			break
		}
	}
	return need
}

// byLeaf returns the number that an input or a constant gives.
func (x *estimate) byLeaf(r api.Rule, outputs []api.Value) int {
	for k, v := range outputs {
		own := r.Const
		if r.Kind == api.RuleInput {
			own = x.tuples[k][r.Input]
		}
		if !value.Equal(own, v) {
			return infinite
		}
	}
	return 1
}

// byGoal returns the number that a goal gives for a depth that is not 0.
func (x *estimate) byGoal(r api.Rule, goal [][]api.Value, depth int) int {
	size := 1
	for i, symbol := range r.Args {
		size += x.need(symbol, goal[i], depth-1)
	}
	return min(size, infinite)
}
