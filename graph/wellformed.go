// Package graph has what the layers of version spaces share: whether version spaces are well-formed and fit together, and their subset graph. It is no layer.
package graph

import (
	"cmp"
	"slices"

	"synthesis/api"
)

// AreWellFormed reports whether version spaces are well-formed, and fit together.
func AreWellFormed(spaces ...api.Space) bool {
	// Version spaces fit together if what is required of the options of each of them holds for the options of all.
	known := signatures{}
	for _, s := range spaces {
		if !isWithinLimits(s) || !areIndices(s.Roots, len(s.Nodes)) || !known.permit(s.Nodes) {
			return false
		}
	}
	return true
}

// CompareOptions orders options by their rules, and then by their arguments.
func CompareOptions(a, b api.Option) int {
	return cmp.Or(cmp.Compare(a.Rule, b.Rule), slices.Compare(a.Args, b.Args))
}

func isWithinLimits(s api.Space) bool {
	options := 0
	for _, n := range s.Nodes {
		options += len(n.Options)
	}
	return len(s.Nodes) <= api.MaxNodes && options <= api.MaxOptions
}

// areIndices reports whether a list has indices below count in strictly ascending order.
func areIndices(list []int, count int) bool {
	for i, index := range list {
		if !isIndex(index, count) || i > 0 && list[i-1] >= index {
			return false
		}
	}
	return true
}

func isIndex(i, count int) bool { return 0 <= i && i < count }

// A signature has the symbol of the nodes that have options with a rule, and the symbols of the arguments of these options.
type signature struct {
	symbol int
	args   []int
}

// signatures has the signatures of the rules that have been met.
type signatures map[int]signature

// permit reports whether nodes are those of a well-formed version space, as far as this does not depend on limits and roots, and have the signatures of the rules that have been met.
func (k signatures) permit(nodes []api.Node) bool {
	for i, n := range nodes {
		if n.Symbol < 0 || n.Size < 1 || n.Size > api.MaxSize {
			return false
		}
		for j, o := range n.Options {
			if j > 0 && CompareOptions(n.Options[j-1], o) >= 0 {
				return false
			}
			if o.Rule < 0 || !haveSize(nodes[:i], o.Args, n.Size-1) || !k.fit(nodes, n.Symbol, o) {
				return false
			}
		}
	}
	return true
}

// haveSize reports whether arguments are indices of the nodes that precede their node, and have the sizes total together.
func haveSize(preceding []api.Node, args []int, total int) bool {
	for _, arg := range args {
		if !isIndex(arg, len(preceding)) {
			return false
		}
		total -= preceding[arg].Size
	}
	return total == 0
}

// fit reports whether an option of a node with the symbol has the signature of its rule, which it determines if the rule is new.
func (k signatures) fit(nodes []api.Node, symbol int, o api.Option) bool {
	known, isKnown := k[o.Rule]
	if !isKnown {
		known.symbol = symbol
		for _, arg := range o.Args {
			known.args = append(known.args, nodes[arg].Symbol)
		}
		k[o.Rule] = known
	}
	isSymbolOf := func(arg, symbol int) bool { return nodes[arg].Symbol == symbol }
	return known.symbol == symbol && slices.EqualFunc(o.Args, known.args, isSymbolOf)
}
