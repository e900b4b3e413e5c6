package states

import (
	"iter"
	"slices"

	"synthesis/api"
	"synthesis/sizes"
)

// A builder has the part of a state graph whose states have at most a size.
type builder struct {
	language api.Language
	sizes    sizes.Table
	rows     Rows
	states   []State
	// numbers has the indices of the states.
	numbers map[identity]int
	// kinds has the indices of the states of each symbol and size.
	kinds   [][api.MaxSize + 1][]int
	options int
}

// An identity is what tells a state from all others.
type identity struct {
	symbol, size int
	key          string
}

func newBuilder(l api.Language, tuples [][]api.Value, apply Operation) *builder {
	return &builder{
		language: l,
		sizes:    sizes.Of(l),
		rows:     RowsOf(l, tuples, apply),
		numbers:  map[identity]int{},
		kinds:    make([][api.MaxSize + 1][]int, len(l.Symbols)),
	}
}

// growTo adds the states of a size with their options, and reports whether the graph is within the limits. The smaller ones must be there.
func (b *builder) growTo(size int) bool {
	// If there are too many options, none of them needs to be evaluated.
	if !b.countOptions(size) {
		return false
	}
	for rule, r := range b.language.Rules {
		for args := range b.arguments(r.Args, size-1) {
			state := b.state(r.Symbol, size, b.row(rule, args))
			b.states[state].Options = append(b.states[state].Options, api.Option{Rule: rule, Args: slices.Clone(args)})
			if len(b.states) > api.MaxNodes {
				return false
			}
		}
	}
	return true
}

// countOptions adds the options of states of a size to the number of options, and reports whether it is within the limit.
func (b *builder) countOptions(size int) bool {
	for _, r := range b.language.Rules {
		for range b.arguments(r.Args, size-1) {
			b.options++
			if b.options > api.MaxOptions {
				return false
			}
		}
	}
	return true
}

// row returns the row of the terms with a rule at their root whose arguments belong to these states.
func (b *builder) row(rule int, args []int) Row {
	rows := make([]Row, len(args))
	for i, arg := range args {
		rows[i] = b.states[arg].Row
	}
	return b.rows.Of(rule, rows)
}

// state returns the state with this row, which it adds if it is new.
func (b *builder) state(symbol, size int, x Row) int {
	id := identity{symbol, size, x.Key}
	number, isKnown := b.numbers[id]
	if !isKnown {
		number = len(b.states)
		b.numbers[id] = number
		b.kinds[symbol][size] = append(b.kinds[symbol][size], number)
		b.states = append(b.states, State{api.Node{Symbol: symbol, Size: size}, x})
	}
	return number
}

// arguments yields all lists of states of the symbols whose sizes add up to total, in ascending order. What it yields is valid until it goes on.
func (b *builder) arguments(symbols []int, total int) iter.Seq[[]int] {
	return func(yield func([]int) bool) {
		b.choose(nil, symbols, total, yield)
	}
}

// choose yields the lists that begin with the chosen states, until yield returns false, and reports whether it did not.
func (b *builder) choose(chosen, symbols []int, total int, yield func([]int) bool) bool {
	if len(symbols) == 0 {
		return total != 0 || yield(chosen)
	}
	first, rest := symbols[0], symbols[1:]
	restSizes := b.sizes.Sums(rest)
	for size := range total + 1 {
		// Where the rest has no states, many choices would be in vain.
		if !restSizes.Has(total - size) {
			continue
		}
		for _, state := range b.kinds[first][size] {
			if !b.choose(append(chosen, state), rest, total-size, yield) {
				return false
			}
		}
	}
	return true
}
