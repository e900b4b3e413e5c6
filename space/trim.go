package space

import (
	"slices"

	"synthesis/api"
)

// productive reports, for each node of a well-formed version space, whether it has terms.
func productive(nodes []api.Node) []bool {
	hasTerms := make([]bool, len(nodes))
	for i, n := range nodes {
		hasTerms[i] = slices.ContainsFunc(n.Options, func(o api.Option) bool { return areAll(hasTerms, o.Args) })
	}
	return hasTerms
}

// areAll reports whether is says so of all elements of a list.
func areAll(is []bool, list []int) bool {
	return !slices.ContainsFunc(list, func(i int) bool { return !is[i] })
}

// trimmed returns a well-formed version space without the nodes, options and roots that are not needed.
func trimmed(s api.Space) api.Space {
	hasTerms := productive(s.Nodes)
	isNeeded := needed(s, hasTerms)
	var t api.Space
	numbers := make([]int, len(s.Nodes))
	for i, n := range s.Nodes {
		if !isNeeded[i] {
			continue
		}
		numbers[i] = len(t.Nodes)
		m := api.Node{Symbol: n.Symbol, Size: n.Size}
		for _, o := range n.Options {
			if areAll(hasTerms, o.Args) {
				m.Options = append(m.Options, api.Option{Rule: o.Rule, Args: renumbered(o.Args, numbers)})
			}
		}
		t.Nodes = append(t.Nodes, m)
	}
	for _, root := range s.Roots {
		if hasTerms[root] {
			t.Roots = append(t.Roots, numbers[root])
		}
	}
	return t
}

// needed reports, for each node, whether it is needed.
func needed(s api.Space, hasTerms []bool) []bool {
	isNeeded := make([]bool, len(s.Nodes))
	for _, root := range s.Roots {
		isNeeded[root] = hasTerms[root]
	}
	// Whether a node is needed depends on nodes that come after it.
	for i, n := range slices.Backward(s.Nodes) {
		for _, o := range n.Options {
			if isNeeded[i] && areAll(hasTerms, o.Args) {
				for _, arg := range o.Args {
					isNeeded[arg] = true
				}
			}
		}
	}
	return isNeeded
}

func renumbered(list, numbers []int) []int {
	var changed []int
	for _, i := range list {
		changed = append(changed, numbers[i])
	}
	return changed
}
