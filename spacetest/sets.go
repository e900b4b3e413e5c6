package spacetest

import (
	"slices"
	"strconv"
	"strings"

	"synthesis/api"
	"synthesis/term"
)

// A Set has terms by their texts.
type Set map[string]api.Term

// SetOf returns the set of some terms.
func SetOf(list ...api.Term) Set {
	s := Set{}
	for _, t := range list {
		s[Write(t)] = t
	}
	return s
}

// Has reports whether a set has the term with this text.
func (s Set) Has(text string) bool {
	_, isThere := s[text]
	return isThere
}

// Sorted returns the terms of a set in order.
func (s Set) Sorted() []api.Term {
	var list []api.Term
	for _, t := range s {
		list = append(list, t)
	}
	slices.SortFunc(list, term.Compare)
	return list
}

// Kept returns the terms of a set of which is says so.
func (s Set) Kept(is func(text string, t api.Term) bool) Set {
	some := Set{}
	for text, t := range s {
		if is(text, t) {
			some[text] = t
		}
	}
	return some
}

// IsSubset reports whether every term of a is one of b.
func IsSubset(a, b Set) bool {
	for text := range a {
		if !b.Has(text) {
			return false
		}
	}
	return true
}

// Derived has the derivations of each node of a version space, by its definition. A term that is derived by several options is there several times.
func Derived(s api.Space) [][]api.Term {
	all := make([][]api.Term, len(s.Nodes))
	for i, n := range s.Nodes {
		for _, o := range n.Options {
			lists := [][]api.Term{nil}
			for _, arg := range o.Args {
				var longer [][]api.Term
				for _, list := range lists {
					for _, t := range all[arg] {
						longer = append(longer, append(slices.Clone(list), t))
					}
				}
				lists = longer
			}
			for _, args := range lists {
				all[i] = append(all[i], api.Term{Rule: o.Rule, Args: args})
			}
		}
	}
	return all
}

// Programs returns the set of a version space, by its definition.
func Programs(s api.Space) Set {
	all := Derived(s)
	var list []api.Term
	for _, root := range s.Roots {
		list = append(list, all[root]...)
	}
	return SetOf(list...)
}

// IsUnambiguous reports whether every term belongs to at most one node by at most one option.
func IsUnambiguous(s api.Space) bool {
	isKnown := map[string]bool{}
	for _, list := range Derived(s) {
		for _, t := range list {
			if isKnown[Write(t)] {
				return false
			}
			isKnown[Write(t)] = true
		}
	}
	return true
}

// Write returns a text that tells a term from all others.
func Write(t api.Term) string {
	var b strings.Builder
	b.WriteString(strconv.Itoa(t.Rule))
	b.WriteByte('(')
	for _, arg := range t.Args {
		b.WriteString(Write(arg))
	}
	b.WriteByte(')')
	return b.String()
}
