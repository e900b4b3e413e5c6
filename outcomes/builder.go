package outcomes

import (
	"iter"
	"slices"

	"synthesis/api"
	"synthesis/graph"
	"synthesis/states"
)

// A builder has the part of an outcome graph that comes from the first states of the subset graph.
type builder struct {
	rows   states.Rows
	states []State
	// parts has, for each of these states, the states into which it is divided.
	parts   [][]int
	options int
}

// divide adds the states into which the next state of the subset graph is divided, and reports whether the graph is within the limits.
func (b *builder) divide(x graph.State, isRoot bool) bool {
	// If there are too many options, none of them needs to be evaluated.
	if !b.countOptions(x.Options) {
		return false
	}
	var part []int
	numbers := map[string]int{}
	for _, o := range x.Options {
		for args := range b.choices(o.Args) {
			row := b.row(o.Rule, args)
			number, isKnown := numbers[row.Key]
			if !isKnown {
				number = len(b.states)
				numbers[row.Key] = number
				part = append(part, number)
				b.states = append(b.states, State{api.Node{Symbol: x.Symbol, Size: x.Size}, row, isRoot})
			}
			b.states[number].Options = append(b.states[number].Options, api.Option{Rule: o.Rule, Args: slices.Clone(args)})
			if len(b.states) > api.MaxNodes {
				return false
			}
		}
	}
	// The choices for one option do not all come before those for the next one.
	for _, number := range part {
		slices.SortFunc(b.states[number].Options, graph.CompareOptions)
	}
	b.parts = append(b.parts, part)
	return true
}

// countOptions adds the options that come from those of a state of the subset graph to the number of options, and reports whether it is within the limit.
func (b *builder) countOptions(options []api.Option) bool {
	for _, o := range options {
		count := 1
		for _, arg := range o.Args {
			count *= len(b.parts[arg])
		}
		b.options += count
		if b.options > api.MaxOptions {
			return false
		}
	}
	return true
}

// row returns the row of the terms with a rule at their root whose arguments belong to these states.
func (b *builder) row(rule int, args []int) states.Row {
	rows := make([]states.Row, len(args))
	for i, arg := range args {
		rows[i] = b.states[arg].Row
	}
	return b.rows.Of(rule, rows)
}

// choices yields the lists of states, one of each part, in ascending order. What it yields is valid until it goes on.
func (b *builder) choices(parts []int) iter.Seq[[]int] {
	return func(yield func([]int) bool) {
		b.choose(nil, parts, yield)
	}
}

// choose yields the lists that begin with the chosen states, until yield returns false, and reports whether it did not.
func (b *builder) choose(chosen, parts []int, yield func([]int) bool) bool {
	if len(parts) == 0 {
		return yield(chosen)
	}
	for _, state := range b.parts[parts[0]] {
		if !b.choose(append(chosen, state), parts[1:], yield) {
			return false
		}
	}
	return true
}
