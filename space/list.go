package space

import (
	"synthesis/api"
	"synthesis/graph"
	"synthesis/term"
)

// listed returns the programs of a trim version space, each once, or ErrMany if there are more than MaxTerms.
func listed(s api.Space) ([]api.Term, api.Errno) {
	// A term may belong to many nodes by many ways, but to one state. Each option of a state has terms that no other one has, and all of them are subterms of programs.
	const mostSubterms = api.MaxTerms * api.MaxSize
	states, e := graph.Subsets(graph.Limits{States: mostSubterms, Options: mostSubterms}, s)
	if e != api.OK || !areFew(states, s.Roots) {
		return nil, api.ErrMany
	}
	var programs []api.Term
	ofState := make([][]api.Term, len(states))
	for i, x := range states {
		for _, o := range x.Options {
			ofState[i] = appendTerms(ofState[i], ofState, o.Args, api.Term{Rule: o.Rule})
		}
		if x.HasAny(s.Roots, 0) {
			programs = append(programs, ofState[i]...)
		}
	}
	for i, t := range programs {
		programs[i] = copied(t)
	}
	return programs, api.OK
}

// areFew reports whether the states that have one of the roots have at most MaxTerms terms altogether.
func areFew(states []graph.State, roots []int) bool {
	counts := make([]int, len(states))
	programs := 0
	for i, x := range states {
		for _, o := range x.Options {
			counts[i] += product(counts, o.Args)
			// Each term of a state is a part of another program.
			if counts[i] > api.MaxTerms {
				return false
			}
		}
		if x.HasAny(roots, 0) {
			programs += counts[i]
		}
	}
	return programs <= api.MaxTerms
}

// product returns the product of the counts with these indices, or a number greater than MaxTerms if it is greater. All counts are from 1 to MaxTerms.
func product(counts, indices []int) int {
	n := 1
	for _, i := range indices {
		if n <= api.MaxTerms {
			n *= counts[i]
		}
	}
	return n
}

// appendTerms appends the terms that begin with t and have further arguments from the states. They share memory with each other.
func appendTerms(list []api.Term, ofState [][]api.Term, states []int, t api.Term) []api.Term {
	if len(states) == 0 {
		return append(list, t)
	}
	for _, arg := range ofState[states[0]] {
		// The arguments of t belong to several terms, so that what is appended must not be written behind them.
		args := t.Args[:len(t.Args):len(t.Args)]
		list = appendTerms(list, ofState, states[1:], api.Term{Rule: t.Rule, Args: append(args, arg)})
	}
	return list
}

// copied returns a copy of a term that shares no memory with it.
func copied(t api.Term) api.Term {
	// The empty path leads to the term itself.
	whole, _ := term.At(t, nil)
	return whole
}
