// Package spacetest has what the tests of the layers of version spaces share: version spaces of several kinds, and what they are by their definitions. It is no layer, and only tests use it.
package spacetest

import (
	"cmp"
	"slices"

	"synthesis/api"
)

// Leaf returns a node of size 1 with rules without arguments.
func Leaf(symbol int, rules ...int) api.Node {
	n := api.Node{Symbol: symbol, Size: 1}
	for _, rule := range rules {
		n.Options = append(n.Options, api.Option{Rule: rule})
	}
	return n
}

// Node returns a node with options.
func Node(symbol, size int, options ...api.Option) api.Node {
	return api.Node{Symbol: symbol, Size: size, Options: options}
}

// Option returns an option of a rule with arguments.
func Option(rule int, args ...int) api.Option { return api.Option{Rule: rule, Args: args} }

// Space returns a version space whose roots are its last nodes.
func Space(roots int, nodes ...api.Node) api.Space {
	return api.Space{Nodes: nodes, Roots: Numbers(len(nodes)-roots, len(nodes)-1)}
}

// Numbers returns the numbers from one to another.
func Numbers(from, to int) []int {
	var list []int
	for n := from; n <= to; n++ {
		list = append(list, n)
	}
	return list
}

// Malformed returns version spaces that are not well-formed, though they have programs where they are.
func Malformed() []api.Space {
	good := []api.Node{Leaf(0, 0), Node(0, 3, Option(1, 0, 0))}
	return []api.Space{
		{Nodes: good, Roots: []int{0, 2}},
		{Nodes: good, Roots: []int{1, 0}},
		{Nodes: good, Roots: []int{0, 0}},
		{Nodes: good, Roots: []int{-1, 0}},
		{Nodes: []api.Node{Leaf(0, 0), Node(0, 4, Option(1, 0, 0))}, Roots: []int{0}},
		{Nodes: []api.Node{Leaf(-1, 0)}, Roots: []int{0}},
		{Nodes: []api.Node{Leaf(0, -1, 0)}, Roots: []int{0}},
		{Nodes: []api.Node{Leaf(0, 1, 0)}, Roots: []int{0}},
		{Nodes: []api.Node{Leaf(0, 0), Leaf(1, 0)}, Roots: []int{0}},
		{Nodes: []api.Node{Leaf(0, 0), {Size: 25}}, Roots: []int{0}},
		{Nodes: []api.Node{Leaf(0, 0), Node(0, 2, Option(1, 1))}, Roots: []int{0}},
		{Nodes: slices.Repeat([]api.Node{Leaf(0, 0)}, api.MaxNodes+1), Roots: []int{0}},
		{Nodes: []api.Node{Leaf(0, Numbers(0, api.MaxOptions)...)}, Roots: []int{0}},
	}
}

// ManyStates returns a version space with so many states that are rules: the node number i has the rules whose bit i is set.
func ManyStates(count int) api.Space {
	var s api.Space
	for bit := 1; bit <= count; bit *= 2 {
		var has []int
		for rule := range count + 1 {
			if rule&bit != 0 {
				has = append(has, rule)
			}
		}
		s.Nodes = append(s.Nodes, Leaf(0, has...))
	}
	s.Roots = Numbers(0, len(s.Nodes)-1)
	return s
}

// ManyOptions returns a version space whose subset graph has 32760 options, and one more for each further rule, in fewer states.
func ManyOptions(further int) api.Space {
	nodes := []api.Node{Leaf(0, Numbers(1, 180)...)}
	for rule := range 180 {
		nodes = append(nodes, Leaf(0, rule+1))
	}
	nodes = append(nodes, Node(0, 2, Option(200, 0)), Node(0, 3, Option(201, 0, 0)), Leaf(0, Numbers(300, 299+further)...))
	return Space(3, nodes...)
}

// Equal reports whether two version spaces are the same.
func Equal(a, b api.Space) bool {
	return slices.Equal(a.Roots, b.Roots) && slices.EqualFunc(a.Nodes, b.Nodes, func(m, n api.Node) bool {
		isSame := func(o, p api.Option) bool { return o.Rule == p.Rule && slices.Equal(o.Args, p.Args) }
		return m.Symbol == n.Symbol && m.Size == n.Size && slices.EqualFunc(m.Options, n.Options, isSame)
	})
}

// IsZero reports whether a version space is the zero value.
func IsZero(s api.Space) bool { return len(s.Nodes) == 0 && len(s.Roots) == 0 }

// Copied returns a version space that shares no memory with s.
func Copied(s api.Space) api.Space {
	c := api.Space{Roots: slices.Clone(s.Roots)}
	for _, n := range s.Nodes {
		n.Options = slices.Clone(n.Options)
		for i, o := range n.Options {
			n.Options[i].Args = slices.Clone(o.Args)
		}
		c.Nodes = append(c.Nodes, n)
	}
	return c
}

func byRuleAndArgs(a, b api.Option) int {
	return cmp.Or(cmp.Compare(a.Rule, b.Rule), slices.Compare(a.Args, b.Args))
}
