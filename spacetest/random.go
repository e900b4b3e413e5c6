package spacetest

import (
	"slices"

	"synthesis/api"
)

// Dice are numbers that are spread evenly, and always the same.
type Dice uint64

// Roll returns a number from 0 to count - 1.
func (d *Dice) Roll(count int) int {
	*d = *d*6364136223846793005 + 1442695040888963407
	return int(uint64(*d>>33) % uint64(count))
}

// Rules has, for each rule, its symbol followed by those of its arguments.
type Rules [][]int

// Mixed returns rules of two symbols with up to three arguments. Terms that begin with a greater argument may come first.
func Mixed() Rules {
	return Rules{{0, 0}, {0}, {1, 0, 1}, {0}, {0, 0, 0}, {1}, {1, 1}, {0}, {0, 1, 0, 0}, {1}}
}

// RulesOf returns the rules of a language.
func RulesOf(l api.Language) Rules {
	var rules Rules
	for _, r := range l.Rules {
		rules = append(rules, append([]int{r.Symbol}, r.Args...))
	}
	return rules
}

// Random returns a well-formed version space of these rules with some nodes, whose sizes are at most 6. Nodes do not ascend by size, and some have no terms. Without rules there are no nodes.
func (r Rules) Random(d *Dice, nodes int) api.Space {
	var s api.Space
	if len(r) == 0 {
		return s
	}
	for range nodes {
		n := r.randomNode(d, s.Nodes)
		for rule, symbols := range r {
			if symbols[0] == n.Symbol {
				addOptions(d, &n, s.Nodes, api.Option{Rule: rule}, symbols[1:], n.Size-1)
			}
		}
		slices.SortFunc(n.Options, byRuleAndArgs)
		s.Nodes = append(s.Nodes, n)
	}
	for i := range s.Nodes {
		if d.Roll(3) == 0 {
			s.Roots = append(s.Roots, i)
		}
	}
	return s
}

// randomNode returns a node without options that has the symbol and the size of some option, if that is not too great.
func (r Rules) randomNode(d *Dice, nodes []api.Node) api.Node {
	symbols := r[d.Roll(len(r))]
	n := api.Node{Symbol: symbols[0], Size: 1}
	for _, symbol := range symbols[1:] {
		for range 3 {
			if i := d.Roll(len(nodes) + 1); i < len(nodes) && nodes[i].Symbol == symbol {
				n.Size += nodes[i].Size
				break
			}
		}
	}
	if n.Size > 6 {
		n.Size = 1
	}
	return n
}

// addOptions adds some of the options that begin with o and have further arguments of the symbols.
func addOptions(d *Dice, n *api.Node, nodes []api.Node, o api.Option, symbols []int, total int) {
	if len(symbols) == 0 {
		if total == 0 && d.Roll(3) > 0 {
			n.Options = append(n.Options, o)
		}
		return
	}
	for i, m := range nodes {
		if m.Symbol == symbols[0] && m.Size <= total {
			addOptions(d, n, nodes, api.Option{Rule: o.Rule, Args: append(slices.Clone(o.Args), i)}, symbols[1:], total-m.Size)
		}
	}
}
