package refine

import (
	"cmp"

	"synthesis/api"
	"synthesis/outcomes"
	"synthesis/value"
)

// alone returns the specification that requires one example and nothing else.
func alone(l api.Language, e api.Example) api.Spec {
	return api.Spec{
		Examples: []api.Example{e},
		Formula:  api.Formula{Kind: api.FormTrue},
		// Without inputs there is one tuple, the one of the example. Otherwise there is none.
		Domain: api.Domain{Axes: make([][]api.Value, len(l.Inputs))},
	}
}

// chosen returns a version space of the programs of an outcome graph that have chosen outcomes.
func chosen(graph []outcomes.State, isChosen func(row []api.Outcome) bool) api.Space {
	var s api.Space
	for i, x := range graph {
		s.Nodes = append(s.Nodes, x.Node)
		if x.IsRoot && isChosen(x.Outcomes) {
			s.Roots = append(s.Roots, i)
		}
	}
	return s
}

// compare orders outcomes: values come first, in their order, and then the undefined outcome.
func compare(a, b api.Outcome) int {
	return cmp.Or(cmp.Compare(a.Errno, b.Errno), value.Compare(a.Value, b.Value))
}
