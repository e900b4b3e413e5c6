package deduce

import (
	"synthesis/api"
	"synthesis/inverse"
	"synthesis/propagate"
	"synthesis/states"
)

// A step is a goal with a rule that its terms may have at their roots.
type step struct {
	goal
	rule int
}

// ways are lists of goals for the arguments of a rule: terms with these arguments have the required outputs.
type ways struct {
	lists [][]goal
	// areComplete tells whether no other arguments give the outputs. Where inverse functions tell nothing, it is false.
	areComplete bool
}

// waysOf returns the ways to terms with a rule that have the outputs of a state.
func (s *search) waysOf(x states.State, rule int) ways {
	key := step{goalOf(x), rule}
	w, isKnown := s.known[key]
	if !isKnown {
		w = s.inverted(x, rule)
		s.known[key] = w
	}
	return w
}

// inverted finds the ways by inverse functions, without those that have a goal without terms.
func (s *search) inverted(x states.State, rule int) ways {
	r := s.language.Rules[rule]
	if !inverse.Invertible(r.Op) {
		return ways{}
	}
	lists, e := propagate.Goals(s.language, rule, outputsOf(x))
	if e != api.OK {
		return ways{}
	}
	w := ways{areComplete: true}
	for _, outputs := range lists {
		if goals, haveTerms := s.goals(r.Args, outputs); haveTerms {
			w.lists = append(w.lists, goals)
		}
	}
	return w
}

// goals returns the goals of symbols for their lists of outputs, or false if one of them has no terms.
func (s *search) goals(symbols []int, outputs [][]api.Value) ([]goal, bool) {
	var goals []goal
	for i, symbol := range symbols {
		g := goal{symbol, states.KeyOf(outputs[i])}
		if len(s.statesOf[g]) == 0 {
			return nil, false
		}
		goals = append(goals, g)
	}
	return goals, true
}

// outputsOf returns the outputs of a state. It is a state of a goal, so that all of its outcomes are defined.
func outputsOf(x states.State) []api.Value {
	var outputs []api.Value
	for _, o := range x.Outcomes {
		outputs = append(outputs, o.Value)
	}
	return outputs
}
