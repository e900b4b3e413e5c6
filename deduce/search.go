package deduce

import (
	"slices"

	"synthesis/api"
	"synthesis/example"
	"synthesis/grammar"
	"synthesis/graph"
	"synthesis/states"
)

// A goal is a symbol, and the outputs that its terms must have on all tuples, of which it has the key.
type goal struct {
	symbol  int
	outputs string
}

// A search goes from the outputs that programs must have down to those of their arguments.
// The state graph tells which goals have terms, so that no goal is pursued in vain.
type search struct {
	language api.Language
	states   []states.State
	// statesOf has the states that have the outputs of a goal, one for each size, in ascending order.
	statesOf map[goal][]int
	// known has the ways that have been found.
	known map[step]ways
	// required is the goal of the programs.
	required goal
}

// newSearch returns the search for the programs up to a size that match all examples.
func newSearch(l api.Language, list []api.Example, most int) (*search, api.Errno) {
	if e := example.Check(l, list); e != api.OK {
		return nil, e
	}
	if e := states.CheckBound(most); e != api.OK {
		return nil, e
	}
	tuples, outputs := states.Required(list)
	all, e := states.Of(l, tuples, most, states.Operators(l))
	if e != api.OK {
		return nil, e
	}
	s := &search{language: l, states: all, statesOf: map[goal][]int{}, known: map[step]ways{}, required: goal{0, outputs}}
	for i, x := range all {
		g := goalOf(x)
		s.statesOf[g] = append(s.statesOf[g], i)
	}
	return s, api.OK
}

func goalOf(x states.State) goal { return goal{x.Symbol, x.Key} }

// roots returns the states of the programs.
func (s *search) roots() []int { return s.statesOf[s.required] }

// space returns a version space of the terms of some states. It has a node for each state, which has options if its terms are needed.
func (s *search) space(roots []int) api.Space {
	found := api.Space{Nodes: make([]api.Node, len(s.states)), Roots: roots}
	isNeeded := make([]bool, len(s.states))
	for _, root := range roots {
		isNeeded[root] = true
	}
	for i, x := range slices.Backward(s.states) {
		found.Nodes[i] = api.Node{Symbol: x.Symbol, Size: x.Size}
		if !isNeeded[i] {
			continue
		}
		options := s.options(i)
		for _, o := range options {
			for _, arg := range o.Args {
				isNeeded[arg] = true
			}
		}
		found.Nodes[i].Options = options
	}
	return found
}

// options returns the options of a state, in order.
func (s *search) options(state int) []api.Option {
	var list []api.Option
	for _, rule := range grammar.Of(s.language, s.states[state].Symbol) {
		list = append(list, s.byRule(state, rule)...)
	}
	slices.SortFunc(list, graph.CompareOptions)
	return list
}

// byRule returns the options of a state with a rule.
func (s *search) byRule(state, rule int) []api.Option {
	x := s.states[state]
	w := s.waysOf(x, rule)
	var list []api.Option
	if !w.areComplete {
		// Without an inverse function, the state graph tells which arguments give the outputs.
		for _, o := range x.Options {
			if o.Rule == rule {
				list = append(list, o)
			}
		}
		return list
	}
	for _, goals := range w.lists {
		list = s.choose(list, api.Option{Rule: rule}, goals, x.Size-1)
	}
	return list
}

// choose appends the options that begin with o and have further arguments with the outputs of goals, whose sizes add up to total.
func (s *search) choose(list []api.Option, o api.Option, goals []goal, total int) []api.Option {
	if len(goals) == 0 {
		if total == 0 {
			list = append(list, api.Option{Rule: o.Rule, Args: slices.Clone(o.Args)})
		}
		return list
	}
	for _, arg := range s.statesOf[goals[0]] {
		if size := s.states[arg].Size; size <= total {
			list = s.choose(list, api.Option{Rule: o.Rule, Args: append(o.Args, arg)}, goals[1:], total-size)
		}
	}
	return list
}
