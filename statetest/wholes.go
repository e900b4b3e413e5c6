package statetest

import (
	"slices"

	"synthesis/api"
)

// Whole returns the version space that has one node for each symbol and size of which there are terms, with all options, where all nodes are roots. The states of its outcome graph are those of the state graph.
func Whole(l api.Language, most int) api.Space {
	var s api.Space
	numbers := map[[2]int]int{}
	for size := 1; size <= most; size++ {
		for symbol := range l.Symbols {
			n := api.Node{Symbol: symbol, Size: size}
			for rule, r := range l.Rules {
				if r.Symbol == symbol {
					addOptions(&n, numbers, api.Option{Rule: rule}, r.Args, size-1)
				}
			}
			if len(n.Options) > 0 {
				numbers[[2]int{symbol, size}] = len(s.Nodes)
				s.Roots = append(s.Roots, len(s.Nodes))
				s.Nodes = append(s.Nodes, n)
			}
		}
	}
	return s
}

// addOptions adds the options that begin with o and have further arguments of the symbols, whose sizes add up to total.
func addOptions(n *api.Node, numbers map[[2]int]int, o api.Option, symbols []int, total int) {
	if len(symbols) == 0 {
		if total == 0 {
			n.Options = append(n.Options, o)
		}
		return
	}
	for size := 1; size <= total; size++ {
		if number, isThere := numbers[[2]int{symbols[0], size}]; isThere {
			addOptions(n, numbers, api.Option{Rule: o.Rule, Args: append(slices.Clone(o.Args), number)}, symbols[1:], total-size)
		}
	}
}

// Apart returns a version space of the language ManyStates(leaves) that has all terms up to the size 3, except the last leaves, as many as are left out. Each term has a state of its own in the subset graph: there are 4095 states, and one more for each leaf that is not left out, and as many options. All nodes are roots.
func Apart(leaves, leftOut int) api.Space {
	const letters = 63
	trim := leaves + letters
	var s api.Space
	for rule := range trim {
		if rule < leaves-leftOut {
			s.Nodes = append(s.Nodes, api.Node{Size: 1, Options: []api.Option{{Rule: rule}}})
		} else if rule >= leaves {
			s.Nodes = append(s.Nodes, api.Node{Symbol: 1, Size: 1, Options: []api.Option{{Rule: rule}}})
		}
	}
	first := len(s.Nodes) - letters
	for i := range letters {
		s.Nodes = append(s.Nodes, api.Node{Symbol: 2, Size: 2, Options: []api.Option{{Rule: trim, Args: []int{first + i}}}})
	}
	// The pairs have numbers from 1, and belong to the nodes of the bits that are set in them.
	for bit := 1; bit <= letters*letters; bit *= 2 {
		n := api.Node{Symbol: 3, Size: 3}
		for pair := range letters * letters {
			if (pair+1)&bit != 0 {
				n.Options = append(n.Options, api.Option{Rule: trim + 1, Args: []int{first + pair/letters, first + pair%letters}})
			}
		}
		s.Nodes = append(s.Nodes, n)
	}
	for i := range s.Nodes {
		s.Roots = append(s.Roots, i)
	}
	return s
}
