package algebra

import (
	"slices"
	"strconv"

	"synthesis/graph"
)

// A class is what the pairs of one class have in common: their symbol and size, whether their terms are programs that use the rule, and a text of the contexts in which they occur in such programs.
// With equal classes, a term of one pair can take the place of one of the other pair in every such program.
type class struct {
	symbol, size int
	isRoot       bool
	contexts     string
}

// A numbering gives numbers from 0 to keys, in the order in which it meets them.
type numbering[K comparable] map[K]int

func (n numbering[K]) of(key K) int {
	number, isKnown := n[key]
	if !isKnown {
		number = len(n)
		n[key] = number
	}
	return number
}

// classes returns numbers of the classes of the pairs whose terms occur in programs that use the rule.
func (x *splitter) classes() map[pair]int {
	places := graph.Places(x.form.Nodes)
	numbers := numbering[class]{}
	classOf := map[pair]int{}
	// The terms in which those of a node occur are greater, so that their classes are found before.
	for i, n := range slices.Backward(x.form.Nodes) {
		_, isRoot := slices.BinarySearch(x.form.Roots, i)
		for _, p := range x.pairsOf(i) {
			c := class{n.Symbol, n.Size, isRoot && p.isUsed, x.contextsOf(p, places[i], classOf)}
			if c.isRoot || c.contexts != "" {
				classOf[p] = numbers.of(c)
			}
		}
	}
	return classOf
}

// contextsOf returns a text of the contexts of a pair with the classes of the terms that they give. Those that give no part of a program that uses the rule are left out.
func (x *splitter) contextsOf(p pair, places []graph.Place, classOf map[pair]int) string {
	var text []byte
	for _, at := range places {
		for _, isUsed := range x.uses(x.form.Nodes[at.Parent].Options[at.Option], at.Arg) {
			if number, isThere := classOf[pair{at.Parent, p.isUsed || isUsed}]; isThere {
				text = strconv.AppendInt(text, int64(at.Context), 10)
				text = strconv.AppendBool(append(text, ':'), isUsed)
				text = strconv.AppendInt(append(text, ':'), int64(number), 10)
				text = append(text, ',')
			}
		}
	}
	return string(text)
}
