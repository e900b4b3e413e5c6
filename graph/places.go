package graph

import (
	"cmp"
	"slices"
	"strconv"

	"synthesis/api"
)

// A Place of a node is an argument of an option of another node.
type Place struct {
	// Context is a number of all else in the option: its rule, the place itself, and the other arguments.
	Context int
	// Parent is the node that has the option, with the number Option, and Arg is the number of the argument.
	Parent, Option, Arg int
}

// Places returns the places of each node in ascending order of their contexts. In an unambiguous version space, a node has at most one place of each context.
func Places(nodes []api.Node) [][]Place {
	places := make([][]Place, len(nodes))
	contexts := map[string]int{}
	for parent, n := range nodes {
		for number, o := range n.Options {
			for i, arg := range o.Args {
				text := contextOf(o, i)
				context, isKnown := contexts[text]
				if !isKnown {
					context = len(contexts)
					contexts[text] = context
				}
				places[arg] = append(places[arg], Place{context, parent, number, i})
			}
		}
	}
	for _, list := range places {
		slices.SortStableFunc(list, func(a, b Place) int { return cmp.Compare(a.Context, b.Context) })
	}
	return places
}

// contextOf returns a text of an option without its argument number i.
func contextOf(o api.Option, i int) string {
	text := strconv.AppendInt(nil, int64(o.Rule), 10)
	for k, arg := range o.Args {
		text = append(text, ',')
		if k != i {
			text = strconv.AppendInt(text, int64(arg), 10)
		}
	}
	return string(text)
}
