package space

import (
	"slices"

	"synthesis/api"
	"synthesis/grammar"
	"synthesis/term"
)

// checkNode checks whether a node of a well-formed version space with these nodes belongs to a valid language.
func checkNode(l api.Language, nodes []api.Node, n api.Node) api.Errno {
	if !isIndex(n.Symbol, len(l.Symbols)) {
		return api.ErrRange
	}
	isOfSymbol := func(arg, symbol int) bool { return nodes[arg].Symbol == symbol }
	for _, o := range n.Options {
		if !isIndex(o.Rule, len(l.Rules)) {
			return api.ErrRange
		}
		r := l.Rules[o.Rule]
		if r.Symbol != n.Symbol || !slices.EqualFunc(o.Args, r.Args, isOfSymbol) {
			return api.ErrForm
		}
	}
	return api.OK
}

// checkTerms checks a language, and terms of any of its symbols.
func checkTerms(l api.Language, list []api.Term) api.Errno {
	if e := grammar.Check(l); e != api.OK {
		return e
	}
	if len(list) > api.MaxTerms {
		return api.ErrMany
	}
	for _, t := range list {
		if e := checkTerm(l, t); e != api.OK {
			return e
		}
	}
	return api.OK
}

func checkTerm(l api.Language, t api.Term) api.Errno {
	if !isIndex(t.Rule, len(l.Rules)) {
		return api.ErrRange
	}
	if e := term.Check(l, l.Rules[t.Rule].Symbol, t); e != api.OK {
		return e
	}
	if term.Size(t) > api.MaxSize {
		return api.ErrSize
	}
	return api.OK
}
