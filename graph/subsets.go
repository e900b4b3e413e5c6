package graph

import (
	"maps"
	"slices"

	"synthesis/api"
)

// A State of a subset graph stands for the terms that belong to the same nodes.
type State struct {
	// Node has the symbol and the size of the terms, and options in ascending order, whose Args are states that precede this one.
	api.Node
	// Members has the nodes, ascending. The nodes of each version space are counted on from those of the one before.
	Members []int
}

// HasAny reports whether the terms belong to one of these nodes of a version space, which are in ascending order, where the nodes of the version space are counted on from first.
func (s State) HasAny(nodes []int, first int) bool {
	return slices.ContainsFunc(s.Members, func(member int) bool {
		_, isThere := slices.BinarySearch(nodes, member-first)
		return isThere
	})
}

// Limits are the greatest numbers of states and of options that a graph may have.
type Limits struct{ States, Options int }

// Of returns the subset graph of version spaces, with its states in ascending order of size. It returns ErrForm if they are not well-formed or do not fit together, and then ErrLimit if the graph is larger than a version space may be.
func Of(spaces ...api.Space) ([]State, api.Errno) {
	if !AreWellFormed(spaces...) {
		return nil, api.ErrForm
	}
	return Subsets(Limits{States: api.MaxNodes, Options: api.MaxOptions}, spaces...)
}

// Subsets returns the subset graph of version spaces that are well-formed and fit together, with its states in ascending order of size. It returns ErrLimit if the graph is not within the limits.
func Subsets(limits Limits, spaces ...api.Space) ([]State, api.Errno) {
	nodes := joined(spaces)
	b := builder{limits: limits, nodes: nodes, statesOf: make([][]int, len(nodes)), numbers: map[string]int{}}
	for size := 1; size <= api.MaxSize; size++ {
		if !b.growTo(size) {
			return nil, api.ErrLimit
		}
	}
	return b.states, api.OK
}

// joined returns the nodes of all version spaces, one after the other.
func joined(spaces []api.Space) []api.Node {
	var all []api.Node
	for _, s := range spaces {
		first := len(all)
		for _, n := range s.Nodes {
			m := api.Node{Symbol: n.Symbol, Size: n.Size}
			for _, o := range n.Options {
				m.Options = append(m.Options, api.Option{Rule: o.Rule, Args: shifted(o.Args, first)})
			}
			all = append(all, m)
		}
	}
	return all
}

func shifted(list []int, distance int) []int {
	var moved []int
	for _, i := range list {
		moved = append(moved, i+distance)
	}
	return moved
}

// A builder has the part of a subset graph whose states have at most a size.
type builder struct {
	limits Limits
	nodes  []api.Node
	// statesOf has, for each node, the states that have it as a member.
	statesOf [][]int
	states   []State
	// numbers has the indices of the states by the texts of their members.
	numbers map[string]int
	// usesOf has an empty list for each state that can be an argument.
	usesOf  [][]int
	options int
}

// growTo adds the states of a size, and reports whether the graph is within the limits. The smaller ones must be there.
func (b *builder) growTo(size int) bool {
	b.usesOf = make([][]int, len(b.states))
	uses := b.usesBySize(size)
	for _, rule := range slices.Sorted(maps.Keys(uses)) {
		if !b.chooseAll(rule, uses[rule]) {
			return false
		}
	}
	return true
}

// A use of a rule is an option with this rule: its arguments, and all nodes of one size that have it.
type use struct{ args, nodes []int }

// usesBySize returns the uses of each rule in nodes of a size. Those without terms are left out, so that no choice of states is in vain.
func (b *builder) usesBySize(size int) map[int][]use {
	hasTerms := func(node int) bool { return len(b.statesOf[node]) > 0 }
	uses := map[int][]use{}
	numbers := map[string]int{}
	for i, n := range b.nodes {
		if n.Size != size {
			continue
		}
		for _, o := range n.Options {
			if !areAll(o.Args, hasTerms) {
				continue
			}
			text := textOf(append([]int{o.Rule}, o.Args...))
			number, isKnown := numbers[text]
			if !isKnown {
				number = len(uses[o.Rule])
				numbers[text] = number
				uses[o.Rule] = append(uses[o.Rule], use{args: o.Args})
			}
			u := &uses[o.Rule][number]
			u.nodes = append(u.nodes, i)
		}
	}
	return uses
}

func areAll(list []int, is func(int) bool) bool {
	return !slices.ContainsFunc(list, func(i int) bool { return !is(i) })
}

// state returns the state with these members, which it adds if it is new.
func (b *builder) state(members []int) int {
	text := textOf(members)
	number, isKnown := b.numbers[text]
	if !isKnown {
		number = len(b.states)
		b.numbers[text] = number
		// All members have the same symbol and size.
		n := b.nodes[members[0]]
		b.states = append(b.states, State{api.Node{Symbol: n.Symbol, Size: n.Size}, members})
		for _, node := range members {
			b.statesOf[node] = append(b.statesOf[node], number)
		}
	}
	return number
}

// add adds an option to a state, and reports whether the graph is within the limits.
func (b *builder) add(state int, o api.Option) bool {
	b.states[state].Options = append(b.states[state].Options, o)
	b.options++
	return b.options <= b.limits.Options && len(b.states) <= b.limits.States
}

// textOf returns a text that tells a list of numbers from all others.
func textOf(list []int) string {
	text := make([]byte, 0, 8*len(list))
	for _, n := range list {
		for shift := 0; shift < 64; shift += 8 {
			text = append(text, byte(n>>shift))
		}
	}
	return string(text)
}
