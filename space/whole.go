package space

import (
	"slices"

	"synthesis/api"
	"synthesis/grammar"
	"synthesis/sizes"
)

// A kind is the symbol and the size of the terms of a node.
type kind struct{ symbol, size int }

// A whole is the version space of all terms of a language up to a size, which has one node of each kind.
type whole struct {
	language api.Language
	sizes    sizes.Table
	nodes    []api.Node
	numbers  map[kind]int
	options  int
}

func newWhole(l api.Language) *whole {
	return &whole{language: l, sizes: sizes.Of(l), numbers: map[kind]int{}}
}

// growTo adds the nodes of a size, and reports whether the version space is within the limits. The smaller ones must be there.
func (w *whole) growTo(size int) bool {
	for symbol := range w.language.Symbols {
		if !w.sizes.BySymbol[symbol].Has(size) {
			continue
		}
		n := api.Node{Symbol: symbol, Size: size}
		for _, rule := range grammar.Of(w.language, symbol) {
			w.choose(&n, rule, nil, w.language.Rules[rule].Args, size-1)
		}
		w.options += len(n.Options)
		w.numbers[kind{symbol, size}] = len(w.nodes)
		w.nodes = append(w.nodes, n)
	}
	// There are fewer nodes than MaxNodes, since there are few symbols and sizes.
	return w.options <= api.MaxOptions
}

// choose adds options with a rule to a node: those whose arguments begin with the chosen nodes, and go on with nodes of the symbols that have the sizes total together.
func (w *whole) choose(n *api.Node, rule int, chosen, symbols []int, total int) {
	if len(symbols) == 0 && total == 0 {
		n.Options = append(n.Options, api.Option{Rule: rule, Args: slices.Clone(chosen)})
	}
	if len(symbols) == 0 {
		return
	}
	for size := 1; size <= total; size++ {
		if number, isThere := w.numbers[kind{symbols[0], size}]; isThere {
			w.choose(n, rule, append(chosen, number), symbols[1:], total-size)
		}
	}
}

// nodesOf returns the nodes of a symbol.
func (w *whole) nodesOf(symbol int) []int {
	var list []int
	for i, n := range w.nodes {
		if n.Symbol == symbol {
			list = append(list, i)
		}
	}
	return list
}
