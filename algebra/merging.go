package algebra

import (
	"slices"
	"strconv"

	"synthesis/api"
	"synthesis/graph"
)

// A merger builds the version space that has a node for each class of pairs.
type merger struct {
	*splitter
	// nodeOf has the nodes of the pairs that have a class.
	nodeOf map[pair]int
	space  api.Space
	// isKnown has the options by their texts, and isDone the choices that were made already.
	isKnown, isDone map[string]bool
}

// merged returns the version space that has a node for each class of pairs, or ErrLimit if it is too large.
func (x *splitter) merged(classOf map[pair]int) (api.Space, api.Errno) {
	m := merger{splitter: x, nodeOf: map[pair]int{}, isKnown: map[string]bool{}, isDone: map[string]bool{}}
	m.addNodes(classOf)
	if len(m.space.Nodes) > api.MaxNodes {
		return api.Space{}, api.ErrLimit
	}
	for i, n := range x.form.Nodes {
		for _, o := range n.Options {
			if !m.addOptions(i, o) {
				return api.Space{}, api.ErrLimit
			}
		}
	}
	for _, n := range m.space.Nodes {
		slices.SortFunc(n.Options, graph.CompareOptions)
	}
	return m.space, api.OK
}

// addNodes adds the nodes in ascending order of size, and the roots.
func (m *merger) addNodes(classOf map[pair]int) {
	numbers := numbering[int]{}
	for i, n := range m.form.Nodes {
		for _, p := range m.pairsOf(i) {
			number, isThere := classOf[p]
			if !isThere {
				continue
			}
			m.nodeOf[p] = numbers.of(number)
			if len(numbers) > len(m.space.Nodes) {
				m.space.Nodes = append(m.space.Nodes, api.Node{Symbol: n.Symbol, Size: n.Size})
			}
		}
	}
	// No other pair is in the class of a root that uses the rule, so that the new roots ascend as the old ones do.
	for _, root := range m.form.Roots {
		if node, isThere := m.nodeOf[pair{root, true}]; isThere {
			m.space.Roots = append(m.space.Roots, node)
		}
	}
}

// addOptions adds the options that come from one of the canonical version space, and reports whether there are not too many.
func (m *merger) addOptions(parent int, o api.Option) bool {
	text := withNumber(nil, o.Rule)
	var choices [][]pair
	for _, arg := range o.Args {
		list := m.choicesOf(arg)
		text = append(text, ';')
		for _, p := range list {
			text = withNumber(text, m.nodeOf[p])
		}
		choices = append(choices, list)
	}
	// The nodes of the arguments determine that of the option.
	if m.isDone[string(text)] {
		return true
	}
	m.isDone[string(text)] = true
	return m.choose(parent, api.Option{Rule: o.Rule}, choices, o.Rule == m.rule)
}

// choicesOf returns a pair of an argument for each node that it can have. Both pairs are of one class if all contexts use the rule, so that it does not matter which of them is chosen.
func (m *merger) choicesOf(arg int) []pair {
	var list []pair
	for _, p := range m.pairsOf(arg) {
		node, isThere := m.nodeOf[p]
		if isThere && (len(list) == 0 || m.nodeOf[list[0]] != node) {
			list = append(list, p)
		}
	}
	return list
}

// choose adds the options that begin with o and have further arguments of the choices, and reports whether there are not too many.
func (m *merger) choose(parent int, o api.Option, choices [][]pair, isUsed bool) bool {
	if len(choices) == 0 {
		if node, isThere := m.nodeOf[pair{parent, isUsed}]; isThere {
			m.add(node, o)
		}
		return len(m.isKnown) <= api.MaxOptions
	}
	for _, p := range choices[0] {
		longer := api.Option{Rule: o.Rule, Args: append(o.Args, m.nodeOf[p])}
		if !m.choose(parent, longer, choices[1:], isUsed || p.isUsed) {
			return false
		}
	}
	return true
}

// add adds an option to a node, unless it is there.
func (m *merger) add(node int, o api.Option) {
	text := withNumber(nil, o.Rule)
	for _, arg := range o.Args {
		text = withNumber(text, arg)
	}
	if !m.isKnown[string(text)] {
		m.isKnown[string(text)] = true
		to := &m.space.Nodes[node]
		to.Options = append(to.Options, api.Option{Rule: o.Rule, Args: slices.Clone(o.Args)})
	}
}

// withNumber appends a number to a text.
func withNumber(text []byte, n int) []byte {
	return strconv.AppendInt(append(text, ','), int64(n), 10)
}
