package term

import (
	"synthesis/api"
	"synthesis/grammar"
)

// Build returns the term with these rules in preorder.
func Build(l api.Language, rules []int) (api.Term, api.Errno) {
	if e := grammar.Check(l); e != api.OK {
		return api.Term{}, e
	}
	if len(rules) > api.MaxTerms {
		return api.Term{}, api.ErrSize
	}
	return read(l, rules)
}

// read returns the term whose rules in preorder are these. The language is valid.
func read(l api.Language, rules []int) (t api.Term, e api.Errno) {
	defer func() {
		if fault, isFault := recover().(api.Errno); isFault {
			t, e = api.Term{}, fault
		}
	}()
	r := reader{rules: l.Rules, left: rules}
	t = r.term(anySymbol)
	if len(r.left) > 0 || Depth(t) > api.MaxDepth {
		return api.Term{}, api.ErrSize
	}
	return t, api.OK
}

// anySymbol is required of the first rule, which may have every symbol.
const anySymbol = -1

// A reader reads terms from the left of a list of rules. A fault ends the reading by a panic with the error.
type reader struct {
	rules []api.Rule
	left  []int
}

func (r *reader) term(symbol int) api.Term {
	t := api.Term{Rule: r.rule(symbol)}
	for _, arg := range r.rules[t.Rule].Args {
		t.Args = append(t.Args, r.term(arg))
	}
	return t
}

// rule reads a rule of the symbol.
func (r *reader) rule(symbol int) int {
	if len(r.left) == 0 {
		panic(api.ErrSize)
	}
	rule := r.left[0]
	if !isIndex(rule, len(r.rules)) {
		panic(api.ErrRange)
	}
	if symbol != anySymbol && symbol != r.rules[rule].Symbol {
		panic(api.ErrType)
	}
	r.left = r.left[1:]
	return rule
}
