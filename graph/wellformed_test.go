package graph_test

import (
	"math"
	"slices"
	"testing"

	"synthesis/api"
	"synthesis/graph"
	"synthesis/spacetest"
)

// small returns a version space with several symbols, sizes and options.
func small() api.Space {
	return api.Space{
		Nodes: []api.Node{spacetest.Leaf(0, 0, 1), spacetest.Leaf(0), spacetest.Node(0, 2, spacetest.Option(5, 0)), spacetest.Leaf(7, 3), spacetest.Node(0, 3, spacetest.Option(5, 2), spacetest.Option(6, 0, 0), spacetest.Option(6, 0, 1), spacetest.Option(6, 1, 0))},
		Roots: []int{0, 2, 4},
	}
}

// DOC.md, Terms: version spaces that are well-formed.
func TestWellFormed(t *testing.T) {
	many := make([]int, 23)
	for i, s := range []api.Space{
		{},
		small(),
		{Nodes: []api.Node{{Size: 1}}},
		{Nodes: []api.Node{{Size: api.MaxSize}}, Roots: []int{0}},
		{Nodes: []api.Node{spacetest.Leaf(math.MaxInt, 0, math.MaxInt)}},
		{Nodes: []api.Node{spacetest.Leaf(0, 0), spacetest.Node(0, api.MaxSize, spacetest.Option(1, many...))}, Roots: []int{0, 1}},
		{Nodes: []api.Node{spacetest.Leaf(0, 0), spacetest.Leaf(0, 0), spacetest.Node(1, 2, spacetest.Option(1, 0), spacetest.Option(1, 1))}},
		{Nodes: []api.Node{spacetest.Leaf(0, 1), spacetest.Node(0, 2), spacetest.Leaf(0, 1, 2), spacetest.Node(1, 4, spacetest.Option(3, 0, 1), spacetest.Option(3, 1, 2))}},
		{Nodes: slices.Repeat([]api.Node{spacetest.Leaf(0, spacetest.Numbers(1, 8)...)}, api.MaxNodes), Roots: spacetest.Numbers(0, api.MaxNodes-1)},
		{Nodes: []api.Node{spacetest.Leaf(0, spacetest.Numbers(1, api.MaxOptions)...)}},
	} {
		if !graph.AreWellFormed(s) {
			t.Errorf("version space %d is not well-formed", i)
		}
	}
	if !graph.AreWellFormed() || !graph.AreWellFormed(small(), api.Space{}, small()) {
		t.Error("no version space, or equal ones")
	}
}

// DOC.md, Terms: each condition is violated alone.
func TestNotWellFormed(t *testing.T) {
	for i, change := range []func(*api.Space){
		func(s *api.Space) { s.Nodes[1].Symbol = -1 },
		func(s *api.Space) { s.Nodes[1].Symbol = math.MinInt },
		func(s *api.Space) { s.Nodes = append(s.Nodes, api.Node{Size: 0}) },
		func(s *api.Space) { s.Nodes = append(s.Nodes, api.Node{Size: -1}) },
		func(s *api.Space) { s.Nodes = append(s.Nodes, api.Node{Size: api.MaxSize + 1}) },
		func(s *api.Space) { s.Nodes = append(s.Nodes, api.Node{Size: math.MinInt}) },
		func(s *api.Space) { s.Nodes[0].Options[1].Rule = 0 },
		func(s *api.Space) { s.Nodes[0] = spacetest.Leaf(0, 1, 0) },
		func(s *api.Space) { s.Nodes[4].Options[2].Args[1] = 0 },
		func(s *api.Space) { s.Nodes[4].Options[3].Args = []int{0, 1} },
		func(s *api.Space) { s.Nodes[4].Options[1].Args = []int{1, 1} },
		func(s *api.Space) { s.Nodes[0].Options[0].Rule = -1 },
		func(s *api.Space) { s.Nodes[0].Options[0].Rule = math.MinInt },
		func(s *api.Space) { s.Nodes[2].Options[0].Args[0] = -1 },
		func(s *api.Space) { s.Nodes[2].Options[0].Args[0] = 2 },
		func(s *api.Space) { s.Nodes[2].Options[0].Args[0] = 4 },
		func(s *api.Space) { s.Nodes[2].Options[0].Args[0] = 5 },
		func(s *api.Space) { s.Nodes[2].Options[0].Args[0] = math.MaxInt },
		func(s *api.Space) { s.Nodes[2].Options[0].Args[0] = math.MinInt },
		// A node that has the size, but comes later.
		func(s *api.Space) {
			s.Nodes = append(s.Nodes[1:2], spacetest.Leaf(0, 0), spacetest.Node(0, 2, spacetest.Option(5, 3)), spacetest.Leaf(0, 0))
		},
		// Sizes that do not add up.
		func(s *api.Space) { s.Nodes[2].Size = 3 },
		func(s *api.Space) { s.Nodes[2].Size = 1 },
		func(s *api.Space) { s.Nodes[3].Size = 2 },
		func(s *api.Space) { s.Nodes = append(s.Nodes, spacetest.Node(0, 2, spacetest.Option(9, 0, 0))) },
		func(s *api.Space) { s.Nodes = append(s.Nodes, spacetest.Node(0, 4, spacetest.Option(9, 0, 0))) },
		func(s *api.Space) {
			s.Nodes = append(s.Nodes, spacetest.Node(0, api.MaxSize, spacetest.Option(9, make([]int, 24)...)))
		},
		// Roots.
		func(s *api.Space) { s.Roots[0] = -1 },
		func(s *api.Space) { s.Roots[0] = math.MinInt },
		func(s *api.Space) { s.Roots[2] = 5 },
		func(s *api.Space) { s.Roots[2] = math.MaxInt },
		func(s *api.Space) { s.Roots[1] = 0 },
		func(s *api.Space) { s.Roots = []int{4, 2} },
		func(s *api.Space) { s.Nodes = nil },
		// Rules whose options differ in their symbols, or in the numbers of their arguments.
		func(s *api.Space) { s.Nodes[3] = spacetest.Leaf(7, 1) },
		func(s *api.Space) { s.Nodes[1] = spacetest.Leaf(0, 3) },
		func(s *api.Space) { s.Nodes[1] = spacetest.Leaf(0, 5) },
		func(s *api.Space) { s.Nodes[2].Options[0].Rule = 6 },
		func(s *api.Space) { s.Nodes[4].Options[0].Rule = 0 },
		func(s *api.Space) { s.Nodes[4].Options[2].Args[1] = 3 },
		func(s *api.Space) { s.Nodes[4].Options[3].Args[0] = 3 },
		func(s *api.Space) { s.Nodes[2].Options = append(s.Nodes[2].Options, spacetest.Option(5, 3)) },
		func(s *api.Space) { s.Nodes[2].Symbol = 1 },
		// Too many nodes, and too many options.
		func(s *api.Space) { s.Nodes = append(s.Nodes, make([]api.Node, api.MaxNodes-4)...) },
		func(s *api.Space) { s.Nodes = slices.Repeat([]api.Node{spacetest.Leaf(0)}, api.MaxNodes+1) },
		func(s *api.Space) {
			s.Nodes = slices.Repeat([]api.Node{spacetest.Leaf(0, spacetest.Numbers(1, 16)...)}, 2048)
			s.Nodes = append(s.Nodes, spacetest.Leaf(0, 1))
		},
		func(s *api.Space) {
			s.Nodes = append(s.Nodes[:0], spacetest.Leaf(0, spacetest.Numbers(1, api.MaxOptions+1)...))
		},
	} {
		s := small()
		if change(&s); graph.AreWellFormed(s) {
			t.Errorf("version space %d is well-formed", i)
		}
		if graph.AreWellFormed(small(), s) || graph.AreWellFormed(s, small()) {
			t.Errorf("version space %d is well-formed beside another one", i)
		}
	}
}

// Layers 26 and 28: version spaces fit together if their options with the same rules have the same symbols.
func TestFit(t *testing.T) {
	for i, x := range []struct {
		nodes []api.Node
		want  bool
	}{
		{[]api.Node{spacetest.Leaf(0, 0, 2, 9)}, true},
		{[]api.Node{spacetest.Leaf(1, 2, 4)}, true},
		{[]api.Node{spacetest.Leaf(1, 0)}, false},
		{[]api.Node{spacetest.Leaf(0, 3)}, false},
		{[]api.Node{spacetest.Leaf(0, 5)}, false},
		{[]api.Node{spacetest.Leaf(0), spacetest.Node(0, 2, spacetest.Option(1, 0))}, false},
		{[]api.Node{spacetest.Leaf(0), spacetest.Node(0, 2, spacetest.Option(5, 0))}, true},
		{[]api.Node{spacetest.Leaf(7), spacetest.Node(0, 2, spacetest.Option(5, 0))}, false},
		{[]api.Node{spacetest.Leaf(0), spacetest.Node(1, 2, spacetest.Option(5, 0))}, false},
		{[]api.Node{spacetest.Leaf(0), spacetest.Node(0, 3, spacetest.Option(6, 0, 0))}, true},
		{[]api.Node{spacetest.Leaf(0), spacetest.Leaf(7), spacetest.Node(0, 3, spacetest.Option(6, 0, 1))}, false},
		{[]api.Node{spacetest.Leaf(0), spacetest.Leaf(7), spacetest.Node(0, 3, spacetest.Option(6, 1, 0))}, false},
		{[]api.Node{spacetest.Leaf(0), spacetest.Node(0, 4, spacetest.Option(6, 0, 0, 0))}, false},
	} {
		other := api.Space{Nodes: x.nodes}
		if !graph.AreWellFormed(other) {
			t.Fatalf("version space %d is not well-formed", i)
		}
		if graph.AreWellFormed(small(), other) != x.want || graph.AreWellFormed(other, api.Space{}, small()) != x.want {
			t.Errorf("version space %d fits: %t", i, !x.want)
		}
	}
}

// Options are ordered by their rules, and then by their arguments.
func TestCompareOptions(t *testing.T) {
	list := []api.Option{spacetest.Option(-1, 9), spacetest.Option(0), spacetest.Option(0, -1), spacetest.Option(0, 0), spacetest.Option(0, 0, 0), spacetest.Option(0, 0, 1), spacetest.Option(0, 1), spacetest.Option(1), spacetest.Option(1, 0)}
	for i, a := range list {
		for k, b := range list {
			want := 0
			if i < k {
				want = -1
			}
			if i > k {
				want = 1
			}
			if got := graph.CompareOptions(a, b); got != want {
				t.Errorf("%v and %v: %d", a, b, got)
			}
		}
	}
}
