package space

import (
	"slices"
	"strconv"

	"synthesis/api"
)

// A pool has different terms with numbers from 0: the rule of each term, and the numbers of its arguments, which are smaller. So equal parts of terms are there once.
type pool struct {
	terms []api.Option
	sizes []int
	// numbers has the numbers of the terms by their texts.
	numbers map[string]int
}

func newPool() *pool { return &pool{numbers: map[string]int{}} }

// number returns the number of the term with a rule and arguments, which it adds if it is new.
func (p *pool) number(rule int, args []int) int {
	text := strconv.AppendInt(nil, int64(rule), 10)
	for _, arg := range args {
		text = strconv.AppendInt(append(text, ','), int64(arg), 10)
	}
	number, isKnown := p.numbers[string(text)]
	if !isKnown {
		number = len(p.terms)
		p.numbers[string(text)] = number
		p.terms = append(p.terms, api.Option{Rule: rule, Args: slices.Clone(args)})
		size := 1
		for _, arg := range args {
			size += p.sizes[arg]
		}
		p.sizes = append(p.sizes, size)
	}
	return number
}

// add adds t and all subterms of its arguments, and returns its number.
func (p *pool) add(t api.Term) int {
	var args []int
	for _, arg := range t.Args {
		args = append(args, p.add(arg))
	}
	return p.number(t.Rule, args)
}

// nodes returns nodes that have one term each, in the order of the numbers. The pool cannot be used any more.
func (p *pool) nodes(rules []api.Rule) []api.Node {
	var nodes []api.Node
	for i, o := range p.terms {
		// Each node has a part of one slice that ends with its own option.
		nodes = append(nodes, api.Node{Symbol: rules[o.Rule].Symbol, Size: p.sizes[i], Options: p.terms[i : i+1 : i+1]})
	}
	return nodes
}
