package canon

import (
	"slices"
	"strconv"

	"synthesis/api"
	"synthesis/graph"
)

// A class is what the states of one class have in common: their symbol and size, whether they are roots, and a text of the contexts in which their terms occur, with the class of the term that this gives.
// With equal classes, a term of one state can take the place of one of the other state in every program.
type class struct {
	symbol, size int
	isRoot       bool
	contexts     string
}

// A numbering gives numbers from 0 to keys, in the order in which it meets them.
type numbering[K comparable] map[K]int

func (n numbering[K]) of(key K) int {
	number, isKnown := n[key]
	if !isKnown {
		number = len(n)
		n[key] = number
	}
	return number
}

// merged returns a version space with one node for each class of states. The states must be ordered, deterministic and trim.
func merged(s api.Space) api.Space {
	classOf := classesOf(s)
	// The first state of a class has its least term, so that the classes are in order if they are numbered by their first states.
	numbers := numbering[int]{}
	nodeOf := make([]int, len(s.Nodes))
	var t api.Space
	for i, n := range s.Nodes {
		nodeOf[i] = numbers.of(classOf[i])
		if nodeOf[i] == len(t.Nodes) {
			t.Nodes = append(t.Nodes, api.Node{Symbol: n.Symbol, Size: n.Size})
		}
		m := &t.Nodes[nodeOf[i]]
		m.Options = append(m.Options, n.Options...)
	}
	for i := range t.Nodes {
		t.Nodes[i].Options = renumberedOptions(t.Nodes[i].Options, nodeOf)
	}
	t.Roots = renumbered(s.Roots, nodeOf)
	return t
}

// classesOf returns a number of the class of each state.
func classesOf(s api.Space) []int {
	places := graph.Places(s.Nodes)
	numbers := numbering[class]{}
	classOf := make([]int, len(s.Nodes))
	// The terms in which a state occurs are greater than its own ones, so that their classes are found before.
	for i, n := range slices.Backward(s.Nodes) {
		_, isRoot := slices.BinarySearch(s.Roots, i)
		classOf[i] = numbers.of(class{n.Symbol, n.Size, isRoot, contextsOf(places[i], classOf)})
	}
	return classOf
}

// contextsOf returns a text of the contexts of the places of a state, with the classes of their parents. A state has at most one parent for each context.
func contextsOf(places []graph.Place, classOf []int) string {
	var text []byte
	for _, p := range places {
		text = strconv.AppendInt(text, int64(p.Context), 10)
		text = strconv.AppendInt(append(text, ':'), int64(classOf[p.Parent]), 10)
		text = append(text, ',')
	}
	return string(text)
}
