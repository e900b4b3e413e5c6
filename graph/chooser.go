package graph

import (
	"slices"

	"synthesis/api"
)

// A chooser chooses states as the arguments of options with one rule. The states of these options have one size.
type chooser struct {
	*builder
	rule int
	uses []use
	// forks has, for each argument, the forks at which it is chosen, by the texts of their uses. Many choices lead to the same fork.
	forks []map[string]*fork
}

// A fork is met where states have been chosen for the first arguments. Its uses are those that have members of these states there, so that they have terms of each option that is found behind it.
type fork struct {
	uses []int
	// states has the states that can be chosen for the next argument, and next has the forks to which they lead.
	states []int
	next   []*fork
	// state is the state of the options, where all arguments have been chosen.
	state int
}

// chooseAll adds the options with a rule, and reports whether the graph is within the limits.
func (b *builder) chooseAll(rule int, uses []use) bool {
	c := chooser{builder: b, rule: rule, uses: uses}
	var all []int
	for i := range uses {
		all = append(all, i)
	}
	for range uses[0].args {
		c.forks = append(c.forks, map[string]*fork{})
	}
	return c.choose(nil, c.fork(0, all))
}

// choose adds the options whose arguments begin with the chosen states, and reports whether the graph is within the limits.
func (c *chooser) choose(chosen []int, f *fork) bool {
	if len(chosen) == len(c.forks) {
		return c.add(f.state, api.Option{Rule: c.rule, Args: slices.Clone(chosen)})
	}
	if len(f.next) == 0 {
		c.open(f, len(chosen))
	}
	for i, state := range f.states {
		if !c.choose(append(chosen, state), f.next[i]) {
			return false
		}
	}
	return true
}

// open finds the choices that there are at a fork.
func (c *chooser) open(f *fork, arg int) {
	for _, i := range f.uses {
		for _, state := range c.statesOf[c.uses[i].args[arg]] {
			if len(c.usesOf[state]) == 0 {
				f.states = append(f.states, state)
			}
			c.usesOf[state] = append(c.usesOf[state], i)
		}
	}
	slices.Sort(f.states)
	for _, state := range f.states {
		f.next = append(f.next, c.fork(arg+1, c.usesOf[state]))
		c.usesOf[state] = c.usesOf[state][:0]
	}
}

// fork returns the fork at which an argument is chosen, or behind the last one, with the uses.
func (c *chooser) fork(arg int, uses []int) *fork {
	if arg == len(c.forks) {
		return &fork{state: c.state(c.membersOf(uses))}
	}
	text := textOf(uses)
	f, isKnown := c.forks[arg][text]
	if !isKnown {
		f = &fork{uses: slices.Clone(uses)}
		c.forks[arg][text] = f
	}
	return f
}

// membersOf returns the nodes that have one of the uses, in ascending order.
func (c *chooser) membersOf(uses []int) []int {
	var members []int
	for _, i := range uses {
		members = append(members, c.uses[i].nodes...)
	}
	slices.Sort(members)
	return slices.Compact(members)
}
