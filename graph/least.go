package graph

import (
	"slices"

	"synthesis/api"
)

// LeastTerms returns, for each node, the rules of its least term in preorder; none for a node without options. The arguments of options must have terms. All terms of a node have the same size, and so have all terms of an argument;
// the order of terms is therefore that of these lists, and a least term has least terms as its arguments.
func LeastTerms(nodes []api.Node) [][]int {
	least := make([][]int, len(nodes))
	for i, n := range nodes {
		for _, o := range n.Options {
			rules := []int{o.Rule}
			for _, arg := range o.Args {
				rules = append(rules, least[arg]...)
			}
			if least[i] == nil || slices.Compare(rules, least[i]) < 0 {
				least[i] = rules
			}
		}
	}
	return least
}
