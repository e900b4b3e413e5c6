package graph_test

import (
	"slices"
	"testing"

	"synthesis/graph"
	"synthesis/space"
	"synthesis/spacetest"
	"synthesis/term"
)

// The least terms of the nodes of version spaces, as rules in preorder.
func TestLeastTerms(t *testing.T) {
	var d spacetest.Dice
	many, greater := 0, 0
	for range 300 {
		s, _ := space.Trim(rules.Random(&d, d.Roll(20)))
		all := spacetest.Derived(s)
		for i, least := range graph.LeastTerms(s.Nodes) {
			slices.SortFunc(all[i], term.Compare)
			if want := term.Rules(all[i][0]); !slices.Equal(least, want) {
				t.Fatalf("%v: the least term of %d is %v, not %v", s, i, least, want)
			}
			if len(all[i]) > 2 {
				many++
			}
			// The least term need not be one of the first option.
			if o := s.Nodes[i].Options[0]; len(o.Args) > 0 && !slices.Equal(least, graph.LeastTerms(append(s.Nodes[:i:i], spacetest.Node(0, 0, o)))[i]) {
				greater++
			}
		}
	}
	if many < 100 || greater < 3 {
		t.Error(many, greater)
	}
	nodes := graph.LeastTerms(spacetest.Space(0, spacetest.Leaf(0, 7, 8), spacetest.Leaf(0), spacetest.Node(0, 2, spacetest.Option(3, 0))).Nodes)
	if len(nodes) != 3 || !slices.Equal(nodes[0], []int{7}) || len(nodes[1]) > 0 || !slices.Equal(nodes[2], []int{3, 7}) {
		t.Error(nodes)
	}
}
