package canon

import (
	"cmp"
	"slices"

	"synthesis/api"
	"synthesis/graph"
)

// ordered returns an unambiguous version space with its nodes in ascending order of size, then of symbol, then of their least terms. Every node must have a term and come after the smaller ones.
func ordered(s api.Space) api.Space {
	least := graph.LeastTerms(s.Nodes)
	order := make([]int, len(s.Nodes))
	for i := range order {
		order[i] = i
	}
	slices.SortFunc(order, func(i, k int) int {
		a, b := s.Nodes[i], s.Nodes[k]
		return cmp.Or(cmp.Compare(a.Size, b.Size), cmp.Compare(a.Symbol, b.Symbol), slices.Compare(least[i], least[k]))
	})
	numbers := make([]int, len(order))
	for number, i := range order {
		numbers[i] = number
	}
	t := api.Space{Roots: renumbered(s.Roots, numbers)}
	for _, i := range order {
		n := s.Nodes[i]
		t.Nodes = append(t.Nodes, api.Node{Symbol: n.Symbol, Size: n.Size, Options: renumberedOptions(n.Options, numbers)})
	}
	return t
}

// renumbered returns the new numbers of the elements of a list, in ascending order, each once.
func renumbered(list, numbers []int) []int {
	changed := mapped(list, numbers)
	slices.Sort(changed)
	return slices.Compact(changed)
}

// renumberedOptions returns options whose arguments have new numbers, in the order of options, each once.
func renumberedOptions(options []api.Option, numbers []int) []api.Option {
	var changed []api.Option
	for _, o := range options {
		changed = append(changed, api.Option{Rule: o.Rule, Args: mapped(o.Args, numbers)})
	}
	slices.SortFunc(changed, graph.CompareOptions)
	return slices.CompactFunc(changed, func(a, b api.Option) bool { return graph.CompareOptions(a, b) == 0 })
}

func mapped(list, numbers []int) []int {
	var changed []int
	for _, i := range list {
		changed = append(changed, numbers[i])
	}
	return changed
}
