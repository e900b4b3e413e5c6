package statetest

import "synthesis/api"

// A Triple is a state of a state graph.
type Triple struct {
	Symbol, Size int
	Key          string
}

// A Graph has the states of a state graph with the terms of each, in the order of terms, and the number of its options.
type Graph struct {
	States  map[Triple][]api.Term
	Options int
}

// GraphOf returns the state graph by its definition, from all terms.
func GraphOf(l api.Language, tuples [][]api.Value, most int) Graph {
	g := Graph{States: map[Triple][]api.Term{}}
	o := OracleOf(l)
	for symbol := range l.Symbols {
		for size := 1; size <= most; size++ {
			for _, t := range o.Terms(symbol, size) {
				x := Triple{symbol, size, Key(l, t, tuples)}
				g.States[x] = append(g.States[x], t)
			}
		}
	}
	statesOf := make([][api.MaxSize + 1]int, len(l.Symbols))
	for x := range g.States {
		statesOf[x.Symbol][x.Size]++
	}
	for _, r := range l.Rules {
		g.Options += optionsOf(r.Args, most-1, statesOf)
	}
	return g
}

// optionsOf returns the number of lists of states, one of each symbol, whose sizes add up to at most the room.
func optionsOf(symbols []int, room int, statesOf [][api.MaxSize + 1]int) int {
	if len(symbols) == 0 {
		return 1
	}
	n := 0
	for size := 1; size <= room; size++ {
		if count := statesOf[symbols[0]][size]; count > 0 {
			n += count * optionsOf(symbols[1:], room-size, statesOf)
		}
	}
	return n
}

// IsWithinLimits reports whether the graph is within the limits.
func (g Graph) IsWithinLimits() bool {
	return len(g.States) <= api.MaxNodes && g.Options <= api.MaxOptions
}

// Keys returns the keys of the outcomes of a symbol.
func (g Graph) Keys(symbol int) map[string]bool {
	keys := map[string]bool{}
	for x := range g.States {
		if x.Symbol == symbol {
			keys[x.Key] = true
		}
	}
	return keys
}
