package canon

import (
	"cmp"
	"slices"
	"strconv"

	"synthesis/api"
)

// A class is what the states of one class have in common: their symbol and size, whether they are roots, and a text of the contexts in which their terms occur, with the class of the term that this gives.
// With equal classes, a term of one state can take the place of one of the other state in every program.
type class struct {
	symbol, size int
	isRoot       bool
	contexts     string
}

// A numbering gives numbers from 0 to keys, in the order in which it meets them.
type numbering[K comparable] map[K]int

func (n numbering[K]) of(key K) int {
	number, isKnown := n[key]
	if !isKnown {
		number = len(n)
		n[key] = number
	}
	return number
}

// merged returns a version space with one node for each class of states. The states must be ordered, deterministic and trim.
func merged(s api.Space) api.Space {
	classOf := classesOf(s)
	// The first state of a class has its least term, so that the classes are in order if they are numbered by their first states.
	numbers := numbering[int]{}
	nodeOf := make([]int, len(s.Nodes))
	var t api.Space
	for i, n := range s.Nodes {
		nodeOf[i] = numbers.of(classOf[i])
		if nodeOf[i] == len(t.Nodes) {
			t.Nodes = append(t.Nodes, api.Node{Symbol: n.Symbol, Size: n.Size})
		}
		m := &t.Nodes[nodeOf[i]]
		m.Options = append(m.Options, n.Options...)
	}
	for i := range t.Nodes {
		t.Nodes[i].Options = renumberedOptions(t.Nodes[i].Options, nodeOf)
	}
	t.Roots = renumbered(s.Roots, nodeOf)
	return t
}

// classesOf returns a number of the class of each state.
func classesOf(s api.Space) []int {
	places := placesOf(s.Nodes)
	numbers := numbering[class]{}
	classOf := make([]int, len(s.Nodes))
	// The terms in which a state occurs are greater than its own ones, so that their classes are found before.
	for i, n := range slices.Backward(s.Nodes) {
		_, isRoot := slices.BinarySearch(s.Roots, i)
		classOf[i] = numbers.of(class{n.Symbol, n.Size, isRoot, contextsOf(places[i], classOf)})
	}
	return classOf
}

// A place of a state is an argument of an option of another state. The context is a number of all else in this option: its rule, the place itself, and the other arguments.
type place struct{ context, parent int }

// placesOf returns the places of each state.
func placesOf(nodes []api.Node) [][]place {
	places := make([][]place, len(nodes))
	contexts := numbering[string]{}
	for parent, n := range nodes {
		for _, o := range n.Options {
			for i, arg := range o.Args {
				places[arg] = append(places[arg], place{contexts.of(contextOf(o, i)), parent})
			}
		}
	}
	return places
}

// contextOf returns a text of an option without its argument number i.
func contextOf(o api.Option, i int) string {
	text := strconv.AppendInt(nil, int64(o.Rule), 10)
	for k, arg := range o.Args {
		text = append(text, ',')
		if k != i {
			text = strconv.AppendInt(text, int64(arg), 10)
		}
	}
	return string(text)
}

// contextsOf returns a text of the contexts of the places of a state, with the classes of their parents. A state has at most one parent for each context.
func contextsOf(places []place, classOf []int) string {
	slices.SortFunc(places, func(a, b place) int { return cmp.Compare(a.context, b.context) })
	var text []byte
	for _, p := range places {
		text = strconv.AppendInt(text, int64(p.context), 10)
		text = strconv.AppendInt(append(text, ':'), int64(classOf[p.parent]), 10)
		text = append(text, ',')
	}
	return string(text)
}
