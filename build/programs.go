package build

import (
	"synthesis/api"
	"synthesis/canon"
	"synthesis/states"
)

// programs returns the canonical version space of the programs up to a size that have the required outcomes on tuples, of which it has the key.
func programs(l api.Language, tuples [][]api.Value, most int, required string) (api.Space, api.Errno) {
	graph, e := states.Of(l, tuples, most, states.Operators(l))
	if e != api.OK {
		return api.Space{}, e
	}
	var s api.Space
	for i, x := range graph {
		s.Nodes = append(s.Nodes, x.Node)
		if x.Symbol == 0 && x.Key == required {
			s.Roots = append(s.Roots, i)
		}
	}
	return canon.Minimal(upToLastRoot(s))
}

// upToLastRoot returns a version space without the nodes that come after the last root, which no program needs.
func upToLastRoot(s api.Space) api.Space {
	count := 0
	for _, root := range s.Roots {
		count = root + 1
	}
	return api.Space{Nodes: s.Nodes[:count:count], Roots: s.Roots}
}
