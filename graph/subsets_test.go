package graph_test

import (
	"slices"
	"strconv"
	"strings"
	"testing"

	"synthesis/api"
	"synthesis/graph"
	"synthesis/spacetest"
)

var limits = graph.Limits{States: api.MaxNodes, Options: api.MaxOptions}

// lines returns a text of each state and each option of the subset graph, in ascending order, by its definition.
func lines(nodes []api.Node) []string {
	all := termsOf(nodes)
	membersOf := map[string][]int{}
	for i := range nodes {
		for _, t := range all[i] {
			if m := membersOf[t.text]; !slices.Contains(m, i) {
				membersOf[t.text] = append(m, i)
			}
		}
	}
	var list []string
	for i, n := range nodes {
		for _, t := range all[i] {
			state := stateText(n, membersOf[t.text])
			var args []string
			for _, arg := range t.args {
				args = append(args, stateText(nodes[membersOf[arg][0]], membersOf[arg]))
			}
			list = append(list, state, state+" "+strconv.Itoa(t.rule)+" "+strings.Join(args, " "))
		}
	}
	slices.Sort(list)
	return slices.Compact(list)
}

func stateText(n api.Node, members []int) string {
	text := strconv.Itoa(n.Symbol) + "/" + strconv.Itoa(n.Size)
	for _, m := range members {
		text += "." + strconv.Itoa(m)
	}
	return text
}

// linesOf returns these texts of states and options that were found.
func linesOf(states []graph.State) []string {
	var list []string
	for _, s := range states {
		list = append(list, stateText(s.Node, s.Members))
		for _, o := range s.Options {
			text := stateText(s.Node, s.Members) + " " + strconv.Itoa(o.Rule)
			var args []string
			for _, arg := range o.Args {
				args = append(args, stateText(states[arg].Node, states[arg].Members))
			}
			list = append(list, text+" "+strings.Join(args, " "))
		}
	}
	slices.Sort(list)
	return list
}

// DOC.md, Terms: the subset graph of one version space, and of several of them.
func TestSubsets(t *testing.T) {
	var d spacetest.Dice
	greatest := 0
	for n := range 1500 {
		var spaces []api.Space
		var nodes []api.Node
		for range n % 4 {
			s := rules.Random(&d, 1+d.Roll(18-3*(n%4)))
			spaces = append(spaces, s)
			first := len(nodes)
			for _, m := range s.Nodes {
				m.Options = slices.Clone(m.Options)
				for i, o := range m.Options {
					m.Options[i].Args = slices.Clone(o.Args)
					for k := range o.Args {
						m.Options[i].Args[k] += first
					}
				}
				nodes = append(nodes, m)
			}
		}
		if !graph.AreWellFormed(spaces...) {
			t.Fatal(spaces)
		}
		states, e := graph.Subsets(limits, spaces...)
		if want := lines(nodes); e != api.OK || !slices.Equal(linesOf(states), want) {
			t.Fatalf("%v: %q, %d, not %q", spaces, linesOf(states), e, want)
		}
		for i, s := range states {
			isBefore := func(o api.Option) bool {
				return !slices.ContainsFunc(o.Args, func(arg int) bool { return arg >= i })
			}
			isInOrder := slices.IsSorted(s.Members) && slices.IsSortedFunc(s.Options, graph.CompareOptions)
			if i > 0 && states[i-1].Size > s.Size || !isInOrder || slices.ContainsFunc(s.Options, func(o api.Option) bool { return !isBefore(o) }) {
				t.Fatalf("%v: %v is not in order", spaces, states)
			}
		}
		greatest = max(greatest, len(states))
	}
	if greatest < 12 {
		t.Error(greatest)
	}
}

// DOC.md, Terms: exactly as many states and options as the limits permit, and one more.
func TestLimits(t *testing.T) {
	for i, x := range []struct {
		spaces          []api.Space
		states, options int
	}{
		{[]api.Space{spacetest.ManyStates(4095)}, 4095, 4095},
		{[]api.Space{spacetest.ManyStates(4095), {Nodes: []api.Node{spacetest.Leaf(0, 0)}}}, api.MaxNodes, 4096},
		{[]api.Space{spacetest.ManyStates(4095), {Nodes: []api.Node{spacetest.Leaf(0, 0), spacetest.Leaf(0, 0, 4096)}}}, 0, 0},
		{[]api.Space{spacetest.ManyStates(4095), {Nodes: []api.Node{spacetest.Leaf(0, 0), spacetest.Leaf(1, 5000)}}}, 0, 0},
		{[]api.Space{spacetest.ManyStates(4095), {Nodes: []api.Node{spacetest.Leaf(0, 0), spacetest.Node(0, 2)}}}, api.MaxNodes, 4096},
		{[]api.Space{spacetest.ManyStates(4095), {Nodes: []api.Node{spacetest.Leaf(0, 4095, 5000)}}}, api.MaxNodes, 4096},
		{[]api.Space{spacetest.ManyStates(4095), {Nodes: []api.Node{spacetest.Leaf(0, 4094, 4095, 5000)}}}, api.MaxNodes, 4096},
		{[]api.Space{spacetest.ManyStates(4095), {Nodes: []api.Node{spacetest.Leaf(0, 4094, 5000), spacetest.Leaf(0, 5001)}}}, 0, 0},
		{[]api.Space{spacetest.ManyOptions(8)}, 183, api.MaxOptions},
		{[]api.Space{spacetest.ManyOptions(9)}, 0, 0},
		{[]api.Space{spacetest.ManyOptions(0), {Nodes: []api.Node{spacetest.Leaf(0, spacetest.Numbers(1, 180)...)}}}, 182, 32760},
		{[]api.Space{spacetest.ManyOptions(8), {Nodes: []api.Node{spacetest.Leaf(0, 1)}}}, 183, api.MaxOptions},
		{[]api.Space{spacetest.ManyOptions(8), {Nodes: []api.Node{spacetest.Leaf(0, 299)}}}, 0, 0},
	} {
		if !graph.AreWellFormed(x.spaces...) {
			t.Fatalf("case %d is not well-formed", i)
		}
		states, e := graph.Subsets(limits, x.spaces...)
		options := 0
		for _, s := range states {
			options += len(s.Options)
		}
		if (e == api.OK) != (x.states > 0) || e != api.OK && e != api.ErrLimit || len(states) != x.states || options != x.options {
			t.Errorf("case %d: %d states, %d options, %d", i, len(states), options, e)
		}
	}
}

// Very many ways to the same terms, and very many terms of one option.
func TestSubsetsOfManyTerms(t *testing.T) {
	const width = 36
	ways := api.Space{Nodes: slices.Repeat([]api.Node{spacetest.Leaf(0, 0)}, width)}
	for size := 2; size <= api.MaxSize; size++ {
		n := spacetest.Node(0, size)
		for i := range width {
			n.Options = append(n.Options, spacetest.Option(1, (size-2)*width+i))
		}
		ways.Nodes = append(ways.Nodes, slices.Repeat([]api.Node{n}, width)...)
	}
	states, e := graph.Subsets(limits, ways)
	if e != api.OK || !graph.AreWellFormed(ways) || len(states) != api.MaxSize {
		t.Error(len(states), e)
	}
	for i, s := range states {
		if s.Size != i+1 || len(s.Options) != 1 || !slices.Equal(s.Members, spacetest.Numbers(i*width, i*width+width-1)) {
			t.Error(i, s)
		}
	}
	args := make([]int, 23)
	for _, x := range []struct {
		leaves int
		want   api.Errno
	}{{1, api.OK}, {2, api.ErrLimit}} {
		s := api.Space{Nodes: []api.Node{spacetest.Leaf(0, spacetest.Numbers(1, x.leaves)...), spacetest.Leaf(0, 1), spacetest.Node(0, api.MaxSize, spacetest.Option(0, args...))}}
		if states, e := graph.Subsets(limits, s); e != x.want || len(states) != 2*(2-x.leaves) {
			t.Errorf("%d: %d, %d", x.leaves, len(states), e)
		}
	}
}

// Very many choices for the first arguments, and none for the last one.
func TestSubsetsWithoutChoice(t *testing.T) {
	s := api.Space{Nodes: []api.Node{spacetest.Leaf(0, spacetest.Numbers(1, 10)...), spacetest.Leaf(0)}}
	for rule := range 10 {
		s.Nodes = append(s.Nodes, spacetest.Leaf(0, rule+1))
	}
	args := make([]int, 23)
	args[22] = 1
	s.Nodes = append(s.Nodes, spacetest.Node(0, api.MaxSize, spacetest.Option(0, args...)))
	if states, e := graph.Subsets(limits, s); e != api.OK || !graph.AreWellFormed(s) || len(states) != 10 {
		t.Error(len(states), e)
	}
}

// Whether the terms of a state belong to one of some nodes.
func TestHasAny(t *testing.T) {
	s := graph.State{Members: []int{2, 5, 6}}
	for i, x := range []struct {
		nodes []int
		first int
		want  bool
	}{
		{nil, 0, false},
		{[]int{0, 1, 3, 4, 7, 8}, 0, false},
		{[]int{2}, 0, true},
		{[]int{6}, 0, true},
		{[]int{0, 1, 3, 5}, 0, true},
		{[]int{5, 6, 7}, 0, true},
		{[]int{-5, 3, 25}, 0, false},
		{[]int{0, 1, 2, 5, 6}, 3, true},
		{[]int{0, 1, 4, 5, 6}, 3, false},
		{[]int{0}, 6, true},
		{[]int{0, 1, 2}, 7, false},
	} {
		if got := s.HasAny(x.nodes, x.first); got != x.want {
			t.Errorf("case %d: %t", i, got)
		}
	}
	if (graph.State{}).HasAny([]int{0}, 0) {
		t.Error("a state without members")
	}
}

// Limits of any numbers: a graph with 5 states and 10 options.
func TestSmallLimits(t *testing.T) {
	s := api.Space{Nodes: []api.Node{spacetest.Leaf(0, 0, 1), spacetest.Leaf(0, 1, 2), spacetest.Node(0, 2, spacetest.Option(5, 0), spacetest.Option(5, 1)), spacetest.Node(0, 3, spacetest.Option(6, 0, 1))}}
	for states := range 9 {
		for options := range 15 {
			found, e := graph.Subsets(graph.Limits{States: states, Options: options}, s)
			if isWithin := states >= 5 && options >= 10; (e == api.OK) != isWithin || (len(found) > 0) != isWithin || e != api.OK && e != api.ErrLimit {
				t.Errorf("%d, %d: %d states, %d", states, options, len(found), e)
			}
		}
	}
}

// Of: version spaces that are not well-formed or do not fit together, graphs that are too large, and all others.
func TestOf(t *testing.T) {
	var d spacetest.Dice
	a, b := rules.Random(&d, 12), rules.Random(&d, 12)
	malformed := api.Space{Nodes: []api.Node{spacetest.Leaf(0, 1, 0)}}
	for i, x := range []struct {
		spaces []api.Space
		want   api.Errno
	}{
		{nil, api.OK},
		{[]api.Space{a}, api.OK},
		{[]api.Space{a, b}, api.OK},
		{[]api.Space{a, malformed}, api.ErrForm},
		{[]api.Space{spacetest.ManyOptions(9), malformed}, api.ErrForm},
		{[]api.Space{{Nodes: []api.Node{spacetest.Leaf(0, 0)}}, {Nodes: []api.Node{spacetest.Leaf(1, 0)}}}, api.ErrForm},
		{[]api.Space{spacetest.ManyOptions(8)}, api.OK},
		{[]api.Space{spacetest.ManyOptions(9)}, api.ErrLimit},
		{[]api.Space{spacetest.ManyStates(4095), {Nodes: []api.Node{spacetest.Leaf(0, 0)}}}, api.OK},
		{[]api.Space{spacetest.ManyStates(4095), {Nodes: []api.Node{spacetest.Leaf(0, 0), spacetest.Leaf(0, 5000)}}}, api.ErrLimit},
	} {
		states, e := graph.Of(x.spaces...)
		if e != x.want || e != api.OK && len(states) > 0 {
			t.Errorf("case %d: %d states, %d", i, len(states), e)
		}
		if e == api.OK {
			same, _ := graph.Subsets(limits, x.spaces...)
			if !slices.Equal(linesOf(states), linesOf(same)) {
				t.Errorf("case %d: %v", i, states)
			}
		}
	}
}
