package graph_test

import (
	"cmp"
	"slices"
	"strconv"
	"strings"

	"synthesis/api"
)

// leaf returns a node of size 1 with rules without arguments.
func leaf(symbol int, rules ...int) api.Node {
	n := api.Node{Symbol: symbol, Size: 1}
	for _, rule := range rules {
		n.Options = append(n.Options, api.Option{Rule: rule})
	}
	return n
}

// node returns a node with options.
func node(symbol, size int, options ...api.Option) api.Node {
	return api.Node{Symbol: symbol, Size: size, Options: options}
}

// option returns an option of a rule with arguments.
func option(rule int, args ...int) api.Option { return api.Option{Rule: rule, Args: args} }

// numbersFrom returns the numbers from one to another.
func numbersFrom(from, to int) []int {
	var list []int
	for n := from; n <= to; n++ {
		list = append(list, n)
	}
	return list
}

// dice are numbers that are spread evenly, and always the same.
type dice uint64

// roll returns a number from 0 to count - 1.
func (d *dice) roll(count int) int {
	*d = *d*6364136223846793005 + 1442695040888963407
	return int(uint64(*d>>33) % uint64(count))
}

// rules has the symbol of each rule, and those of its arguments.
var rules = [][]int{{0, 0}, {0}, {1, 0, 1}, {0}, {0, 0, 0}, {1}, {1, 1}, {0}, {0, 1, 0, 0}, {1}}

// randomSpace returns a well-formed version space with some nodes, whose sizes are at most 7. Nodes do not ascend by size, and some have no terms.
func randomSpace(d *dice, nodes int) api.Space {
	var s api.Space
	for range nodes {
		n := randomNode(d, s.Nodes)
		for rule, symbols := range rules {
			if symbols[0] == n.Symbol {
				addOptions(d, &n, s.Nodes, api.Option{Rule: rule}, symbols[1:], n.Size-1)
			}
		}
		slices.SortFunc(n.Options, byRuleAndArgs)
		s.Nodes = append(s.Nodes, n)
	}
	for i := range s.Nodes {
		if d.roll(3) == 0 {
			s.Roots = append(s.Roots, i)
		}
	}
	return s
}

// randomNode returns a node without options that has the symbol and the size of some option, if that is not too great.
func randomNode(d *dice, nodes []api.Node) api.Node {
	symbols := rules[d.roll(len(rules))]
	n := api.Node{Symbol: symbols[0], Size: 1}
	for _, symbol := range symbols[1:] {
		for _, i := range []int{d.roll(len(nodes) + 1), d.roll(len(nodes) + 1), d.roll(len(nodes) + 1)} {
			if i < len(nodes) && nodes[i].Symbol == symbol {
				n.Size += nodes[i].Size
				break
			}
		}
	}
	if n.Size > 7 {
		n.Size = 1
	}
	return n
}

// addOptions adds some of the options that begin with o and have further arguments of the symbols.
func addOptions(d *dice, n *api.Node, nodes []api.Node, o api.Option, symbols []int, total int) {
	if len(symbols) == 0 {
		if total == 0 && d.roll(3) > 0 {
			n.Options = append(n.Options, o)
		}
		return
	}
	for i, m := range nodes {
		if m.Symbol == symbols[0] && m.Size <= total {
			addOptions(d, n, nodes, api.Option{Rule: o.Rule, Args: append(slices.Clone(o.Args), i)}, symbols[1:], total-m.Size)
		}
	}
}

func byRuleAndArgs(a, b api.Option) int {
	return cmp.Or(cmp.Compare(a.Rule, b.Rule), slices.Compare(a.Args, b.Args))
}

// A written is a term as a text, with its rule and the texts of its arguments.
type written struct {
	text string
	rule int
	args []string
}

// termsOf returns the terms of each node.
func termsOf(nodes []api.Node) [][]written {
	all := make([][]written, len(nodes))
	for i, n := range nodes {
		for _, o := range n.Options {
			for _, args := range argumentsOf(all, o.Args) {
				text := strconv.Itoa(o.Rule) + "(" + strings.Join(args, " ") + ")"
				all[i] = append(all[i], written{text, o.Rule, args})
			}
		}
	}
	return all
}

// argumentsOf returns the lists of terms, one of each node.
func argumentsOf(all [][]written, nodes []int) [][]string {
	lists := [][]string{nil}
	for _, n := range nodes {
		var longer [][]string
		for _, list := range lists {
			for _, t := range all[n] {
				longer = append(longer, append(slices.Clone(list), t.text))
			}
		}
		lists = longer
	}
	return lists
}
