package algebra

import (
	"synthesis/api"
	"synthesis/canon"
)

// A pair stands for the terms of a node that use a rule, or for those that do not.
type pair struct {
	node   int
	isUsed bool
}

// with returns the canonical version space of those programs of a canonical version space that use a rule, or ErrLimit if it is too large.
//
// It has a node for each class of pairs. An option of the canonical version space becomes as many options as there are choices of classes for its arguments, which may be very many.
// The classes are therefore found first, so that no option is written that the result does not have.
func with(form api.Space, rule int) (api.Space, api.Errno) {
	x := splitter{form: form, rule: rule, hasTerms: map[pair]bool{}}
	for i, n := range form.Nodes {
		for _, o := range n.Options {
			for _, isUsed := range x.uses(o, -1) {
				x.hasTerms[pair{i, isUsed}] = true
			}
		}
	}
	s, e := x.merged(x.classes())
	if e != api.OK {
		return api.Space{}, e
	}
	return canon.Minimal(s)
}

// A splitter splits the nodes of a canonical version space into those of the programs that use a rule.
type splitter struct {
	form     api.Space
	rule     int
	hasTerms map[pair]bool
}

// uses tells whether the terms of an option can use the rule apart from the argument number except: false, true, or both. The pairs of the arguments must be known.
func (x *splitter) uses(o api.Option, except int) []bool {
	canBeUsed, canBeUnused := o.Rule == x.rule, o.Rule != x.rule
	for i, arg := range o.Args {
		if i != except {
			canBeUsed = canBeUsed || x.hasTerms[pair{arg, true}]
			canBeUnused = canBeUnused && x.hasTerms[pair{arg, false}]
		}
	}
	var list []bool
	if canBeUnused {
		list = append(list, false)
	}
	if canBeUsed {
		list = append(list, true)
	}
	return list
}

// pairsOf returns the pairs of a node that have terms.
func (x *splitter) pairsOf(node int) []pair {
	var list []pair
	for _, isUsed := range []bool{false, true} {
		if p := (pair{node, isUsed}); x.hasTerms[p] {
			list = append(list, p)
		}
	}
	return list
}
