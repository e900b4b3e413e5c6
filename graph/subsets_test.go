package graph_test

import (
	"slices"
	"strconv"
	"strings"
	"testing"

	"synthesis/api"
	"synthesis/graph"
)

var limits = graph.Limits{States: api.MaxNodes, Options: api.MaxOptions}

// lines returns a text of each state and each option of the subset graph, in ascending order, by its definition.
func lines(nodes []api.Node) []string {
	all := termsOf(nodes)
	membersOf := map[string][]int{}
	for i := range nodes {
		for _, t := range all[i] {
			if m := membersOf[t.text]; !slices.Contains(m, i) {
				membersOf[t.text] = append(m, i)
			}
		}
	}
	var list []string
	for i, n := range nodes {
		for _, t := range all[i] {
			state := stateText(n, membersOf[t.text])
			var args []string
			for _, arg := range t.args {
				args = append(args, stateText(nodes[membersOf[arg][0]], membersOf[arg]))
			}
			list = append(list, state, state+" "+strconv.Itoa(t.rule)+" "+strings.Join(args, " "))
		}
	}
	slices.Sort(list)
	return slices.Compact(list)
}

func stateText(n api.Node, members []int) string {
	text := strconv.Itoa(n.Symbol) + "/" + strconv.Itoa(n.Size)
	for _, m := range members {
		text += "." + strconv.Itoa(m)
	}
	return text
}

// linesOf returns these texts of states and options that were found.
func linesOf(states []graph.State) []string {
	var list []string
	for _, s := range states {
		list = append(list, stateText(s.Node, s.Members))
		for _, o := range s.Options {
			text := stateText(s.Node, s.Members) + " " + strconv.Itoa(o.Rule)
			var args []string
			for _, arg := range o.Args {
				args = append(args, stateText(states[arg].Node, states[arg].Members))
			}
			list = append(list, text+" "+strings.Join(args, " "))
		}
	}
	slices.Sort(list)
	return list
}

// DOC.md, Terms: the subset graph of one version space, and of several of them.
func TestSubsets(t *testing.T) {
	var d dice
	greatest := 0
	for n := range 1500 {
		var spaces []api.Space
		var nodes []api.Node
		for range n % 4 {
			s := randomSpace(&d, 1+d.roll(18-3*(n%4)))
			spaces = append(spaces, s)
			first := len(nodes)
			for _, m := range s.Nodes {
				m.Options = slices.Clone(m.Options)
				for i, o := range m.Options {
					m.Options[i].Args = slices.Clone(o.Args)
					for k := range o.Args {
						m.Options[i].Args[k] += first
					}
				}
				nodes = append(nodes, m)
			}
		}
		if !graph.AreWellFormed(spaces...) {
			t.Fatal(spaces)
		}
		states, e := graph.Subsets(limits, spaces...)
		if want := lines(nodes); e != api.OK || !slices.Equal(linesOf(states), want) {
			t.Fatalf("%v: %q, %d, not %q", spaces, linesOf(states), e, want)
		}
		for i, s := range states {
			isBefore := func(o api.Option) bool {
				return !slices.ContainsFunc(o.Args, func(arg int) bool { return arg >= i })
			}
			if i > 0 && states[i-1].Size > s.Size || !slices.IsSorted(s.Members) || slices.ContainsFunc(s.Options, func(o api.Option) bool { return !isBefore(o) }) {
				t.Fatalf("%v: %v is not in order", spaces, states)
			}
		}
		greatest = max(greatest, len(states))
	}
	if greatest < 12 {
		t.Error(greatest)
	}
}

// manyStates returns a version space with so many states that are rules: the node number i has the rules whose bit i is set.
func manyStates(count int) api.Space {
	var s api.Space
	for bit := 1; bit <= count; bit *= 2 {
		var has []int
		for rule := range count + 1 {
			if rule&bit != 0 {
				has = append(has, rule)
			}
		}
		s.Nodes = append(s.Nodes, leaf(0, has...))
	}
	return s
}

// manyOptions returns a version space whose subset graph has 32760 options, and one more for each further rule, in fewer states.
func manyOptions(further int) api.Space {
	s := api.Space{Nodes: []api.Node{leaf(0, numbersFrom(1, 180)...)}}
	for rule := range 180 {
		s.Nodes = append(s.Nodes, leaf(0, rule+1))
	}
	s.Nodes = append(s.Nodes, node(0, 2, option(200, 0)), node(0, 3, option(201, 0, 0)), leaf(0, numbersFrom(300, 299+further)...))
	return s
}

// DOC.md, Terms: exactly as many states and options as the limits permit, and one more.
func TestLimits(t *testing.T) {
	for i, x := range []struct {
		spaces          []api.Space
		states, options int
	}{
		{[]api.Space{manyStates(4095)}, 4095, 4095},
		{[]api.Space{manyStates(4095), {Nodes: []api.Node{leaf(0, 0)}}}, api.MaxNodes, 4096},
		{[]api.Space{manyStates(4095), {Nodes: []api.Node{leaf(0, 0), leaf(0, 0, 4096)}}}, 0, 0},
		{[]api.Space{manyStates(4095), {Nodes: []api.Node{leaf(0, 0), leaf(1, 5000)}}}, 0, 0},
		{[]api.Space{manyStates(4095), {Nodes: []api.Node{leaf(0, 0), node(0, 2)}}}, api.MaxNodes, 4096},
		{[]api.Space{manyStates(4095), {Nodes: []api.Node{leaf(0, 4095, 5000)}}}, api.MaxNodes, 4096},
		{[]api.Space{manyStates(4095), {Nodes: []api.Node{leaf(0, 4094, 4095, 5000)}}}, api.MaxNodes, 4096},
		{[]api.Space{manyStates(4095), {Nodes: []api.Node{leaf(0, 4094, 5000), leaf(0, 5001)}}}, 0, 0},
		{[]api.Space{manyOptions(8)}, 183, api.MaxOptions},
		{[]api.Space{manyOptions(9)}, 0, 0},
		{[]api.Space{manyOptions(0), {Nodes: []api.Node{leaf(0, numbersFrom(1, 180)...)}}}, 182, 32760},
		{[]api.Space{manyOptions(8), {Nodes: []api.Node{leaf(0, 1)}}}, 183, api.MaxOptions},
		{[]api.Space{manyOptions(8), {Nodes: []api.Node{leaf(0, 299)}}}, 0, 0},
	} {
		if !graph.AreWellFormed(x.spaces...) {
			t.Fatalf("case %d is not well-formed", i)
		}
		states, e := graph.Subsets(limits, x.spaces...)
		options := 0
		for _, s := range states {
			options += len(s.Options)
		}
		if (e == api.OK) != (x.states > 0) || e != api.OK && e != api.ErrLimit || len(states) != x.states || options != x.options {
			t.Errorf("case %d: %d states, %d options, %d", i, len(states), options, e)
		}
	}
}

// Very many ways to the same terms, and very many terms of one option.
func TestSubsetsOfManyTerms(t *testing.T) {
	const width = 36
	ways := api.Space{Nodes: slices.Repeat([]api.Node{leaf(0, 0)}, width)}
	for size := 2; size <= api.MaxSize; size++ {
		n := node(0, size)
		for i := range width {
			n.Options = append(n.Options, option(1, (size-2)*width+i))
		}
		ways.Nodes = append(ways.Nodes, slices.Repeat([]api.Node{n}, width)...)
	}
	states, e := graph.Subsets(limits, ways)
	if e != api.OK || !graph.AreWellFormed(ways) || len(states) != api.MaxSize {
		t.Error(len(states), e)
	}
	for i, s := range states {
		if s.Size != i+1 || len(s.Options) != 1 || !slices.Equal(s.Members, numbersFrom(i*width, i*width+width-1)) {
			t.Error(i, s)
		}
	}
	args := make([]int, 23)
	for _, x := range []struct {
		leaves int
		want   api.Errno
	}{{1, api.OK}, {2, api.ErrLimit}} {
		s := api.Space{Nodes: []api.Node{leaf(0, numbersFrom(1, x.leaves)...), leaf(0, 1), node(0, api.MaxSize, option(0, args...))}}
		if states, e := graph.Subsets(limits, s); e != x.want || len(states) != 2*(2-x.leaves) {
			t.Errorf("%d: %d, %d", x.leaves, len(states), e)
		}
	}
}

// Very many choices for the first arguments, and none for the last one.
func TestSubsetsWithoutChoice(t *testing.T) {
	s := api.Space{Nodes: []api.Node{leaf(0, numbersFrom(1, 10)...), leaf(0)}}
	for rule := range 10 {
		s.Nodes = append(s.Nodes, leaf(0, rule+1))
	}
	args := make([]int, 23)
	args[22] = 1
	s.Nodes = append(s.Nodes, node(0, api.MaxSize, option(0, args...)))
	if states, e := graph.Subsets(limits, s); e != api.OK || !graph.AreWellFormed(s) || len(states) != 10 {
		t.Error(len(states), e)
	}
}

// Whether the terms of a state belong to one of some nodes.
func TestHasAny(t *testing.T) {
	s := graph.State{Members: []int{2, 5, 6}}
	for i, x := range []struct {
		nodes []int
		want  bool
	}{
		{nil, false},
		{[]int{0, 1, 3, 4, 7, 8}, false},
		{[]int{2}, true},
		{[]int{6}, true},
		{[]int{0, 1, 3, 5}, true},
		{[]int{5, 6, 7}, true},
		{[]int{-5, 3, 25}, false},
	} {
		if got := s.HasAny(x.nodes); got != x.want {
			t.Errorf("case %d: %t", i, got)
		}
	}
	if (graph.State{}).HasAny([]int{0}) {
		t.Error("a state without members")
	}
}

// Limits of any numbers: a graph with 5 states and 10 options.
func TestSmallLimits(t *testing.T) {
	s := api.Space{Nodes: []api.Node{leaf(0, 0, 1), leaf(0, 1, 2), node(0, 2, option(5, 0), option(5, 1)), node(0, 3, option(6, 0, 1))}}
	for states := range 9 {
		for options := range 15 {
			found, e := graph.Subsets(graph.Limits{States: states, Options: options}, s)
			if isWithin := states >= 5 && options >= 10; (e == api.OK) != isWithin || (len(found) > 0) != isWithin || e != api.OK && e != api.ErrLimit {
				t.Errorf("%d, %d: %d states, %d", states, options, len(found), e)
			}
		}
	}
}
