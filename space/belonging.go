package space

import (
	"slices"

	"synthesis/api"
)

// belonging reports, for each node of a well-formed version space, whether t belongs to it.
// All subterms are looked for in all nodes, since they might belong to a node by very many ways.
func belonging(nodes []api.Node, t api.Term) []bool {
	var args [][]bool
	for _, arg := range t.Args {
		args = append(args, belonging(nodes, arg))
	}
	hasTerm := func(o api.Option) bool {
		belongs := func(arg int, belongsTo []bool) bool { return belongsTo[arg] }
		return o.Rule == t.Rule && slices.EqualFunc(o.Args, args, belongs)
	}
	belongsTo := make([]bool, len(nodes))
	for i, n := range nodes {
		belongsTo[i] = slices.ContainsFunc(n.Options, hasTerm)
	}
	return belongsTo
}

// hasAtMost reports whether t has at most so many rules. It counts them no further, so that it ends for a term that contains itself, too.
func hasAtMost(t api.Term, most int) bool { return left(t, most) >= 0 }

// left returns how many of count rules are left if those of t are taken away, or a negative number if t has more rules.
func left(t api.Term, count int) int {
	count--
	for _, arg := range t.Args {
		if count < 0 {
			return count
		}
		count = left(arg, count)
	}
	return count
}
