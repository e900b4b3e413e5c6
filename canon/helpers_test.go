package canon_test

import (
	"cmp"
	"slices"
	"strconv"
	"strings"

	"synthesis/api"
	"synthesis/term"
)

// leaf returns a node of size 1 with rules without arguments.
func leaf(symbol int, rules ...int) api.Node {
	n := api.Node{Symbol: symbol, Size: 1}
	for _, rule := range rules {
		n.Options = append(n.Options, api.Option{Rule: rule})
	}
	return n
}

// node returns a node with options.
func node(symbol, size int, options ...api.Option) api.Node {
	return api.Node{Symbol: symbol, Size: size, Options: options}
}

// option returns an option of a rule with arguments.
func option(rule int, args ...int) api.Option { return api.Option{Rule: rule, Args: args} }

// numbersFrom returns the numbers from one to another.
func numbersFrom(from, to int) []int {
	var list []int
	for n := from; n <= to; n++ {
		list = append(list, n)
	}
	return list
}

// malformed returns version spaces that are not well-formed.
func malformed() []api.Space {
	good := []api.Node{leaf(0, 0), node(0, 3, option(1, 0, 0))}
	return []api.Space{
		{Nodes: good, Roots: []int{0, 2}},
		{Nodes: good, Roots: []int{1, 0}},
		{Nodes: []api.Node{leaf(0, 0), node(0, 4, option(1, 0, 0))}},
		{Nodes: []api.Node{leaf(-1, 0)}},
		{Nodes: []api.Node{leaf(0, -1, 0)}},
		{Nodes: []api.Node{leaf(0, 1, 0)}},
		{Nodes: []api.Node{leaf(0, 0), leaf(1, 0)}},
		{Nodes: []api.Node{{Size: 25}}},
		{Nodes: []api.Node{leaf(0, 0), node(0, 2, option(1, 1))}},
		{Nodes: slices.Repeat([]api.Node{leaf(0, 0)}, api.MaxNodes+1)},
		{Nodes: []api.Node{leaf(0, numbersFrom(0, api.MaxOptions)...)}},
	}
}

// manyStates returns a version space with so many states that are rules: the node number i has the rules whose bit i is set.
func manyStates(count int) api.Space {
	var s api.Space
	for bit := 1; bit <= count; bit *= 2 {
		var has []int
		for rule := range count + 1 {
			if rule&bit != 0 {
				has = append(has, rule)
			}
		}
		s.Nodes = append(s.Nodes, leaf(0, has...))
	}
	s.Roots = numbersFrom(0, len(s.Nodes)-1)
	return s
}

// manyOptions returns a version space whose subset graph has 32760 options, and one more for each further rule, in fewer states.
func manyOptions(further int) api.Space {
	s := api.Space{Nodes: []api.Node{leaf(0, numbersFrom(1, 180)...)}}
	for rule := range 180 {
		s.Nodes = append(s.Nodes, leaf(0, rule+1))
	}
	s.Nodes = append(s.Nodes, node(0, 2, option(200, 0)), node(0, 3, option(201, 0, 0)), leaf(0, numbersFrom(300, 299+further)...))
	s.Roots = numbersFrom(len(s.Nodes)-3, len(s.Nodes)-1)
	return s
}

// dice are numbers that are spread evenly, and always the same.
type dice uint64

// roll returns a number from 0 to count - 1.
func (d *dice) roll(count int) int {
	*d = *d*6364136223846793005 + 1442695040888963407
	return int(uint64(*d>>33) % uint64(count))
}

// rules has the symbol of each rule, and those of its arguments. Terms that begin with a greater argument may come first.
var rules = [][]int{{0, 0}, {0}, {1, 0, 1}, {0}, {0, 0, 0}, {1}, {1, 1}, {0}, {0, 1, 0, 0}, {1}}

// randomSpace returns a well-formed version space with some nodes, whose sizes are at most 6. Nodes do not ascend by size, and some have no terms.
func randomSpace(d *dice, nodes int) api.Space {
	var s api.Space
	for range nodes {
		n := randomNode(d, s.Nodes)
		for rule, symbols := range rules {
			if symbols[0] == n.Symbol {
				addOptions(d, &n, s.Nodes, api.Option{Rule: rule}, symbols[1:], n.Size-1)
			}
		}
		slices.SortFunc(n.Options, byRuleAndArgs)
		s.Nodes = append(s.Nodes, n)
	}
	for i := range s.Nodes {
		if d.roll(3) == 0 {
			s.Roots = append(s.Roots, i)
		}
	}
	return s
}

// randomNode returns a node without options that has the symbol and the size of some option, if that is not too great.
func randomNode(d *dice, nodes []api.Node) api.Node {
	symbols := rules[d.roll(len(rules))]
	n := api.Node{Symbol: symbols[0], Size: 1}
	for _, symbol := range symbols[1:] {
		for range 3 {
			if i := d.roll(len(nodes) + 1); i < len(nodes) && nodes[i].Symbol == symbol {
				n.Size += nodes[i].Size
				break
			}
		}
	}
	if n.Size > 6 {
		n.Size = 1
	}
	return n
}

// addOptions adds some of the options that begin with o and have further arguments of the symbols.
func addOptions(d *dice, n *api.Node, nodes []api.Node, o api.Option, symbols []int, total int) {
	if len(symbols) == 0 {
		if total == 0 && d.roll(3) > 0 {
			n.Options = append(n.Options, o)
		}
		return
	}
	for i, m := range nodes {
		if m.Symbol == symbols[0] && m.Size <= total {
			addOptions(d, n, nodes, api.Option{Rule: o.Rule, Args: append(slices.Clone(o.Args), i)}, symbols[1:], total-m.Size)
		}
	}
}

func byRuleAndArgs(a, b api.Option) int {
	return cmp.Or(cmp.Compare(a.Rule, b.Rule), slices.Compare(a.Args, b.Args))
}

// derived has the derivations of each node of a version space, by its definition. A term that is derived by several options is there several times.
func derived(s api.Space) [][]api.Term {
	all := make([][]api.Term, len(s.Nodes))
	for i, n := range s.Nodes {
		for _, o := range n.Options {
			lists := [][]api.Term{nil}
			for _, arg := range o.Args {
				var longer [][]api.Term
				for _, list := range lists {
					for _, t := range all[arg] {
						longer = append(longer, append(slices.Clone(list), t))
					}
				}
				lists = longer
			}
			for _, args := range lists {
				all[i] = append(all[i], api.Term{Rule: o.Rule, Args: args})
			}
		}
	}
	return all
}

// A set has terms by their texts.
type set map[string]api.Term

func setOf(list ...api.Term) set {
	s := set{}
	for _, t := range list {
		s[write(t)] = t
	}
	return s
}

func (s set) has(text string) bool {
	_, isThere := s[text]
	return isThere
}

// sorted returns the terms of a set in order.
func (s set) sorted() []api.Term {
	var list []api.Term
	for _, t := range s {
		list = append(list, t)
	}
	slices.SortFunc(list, term.Compare)
	return list
}

// programs returns the set of a version space, by its definition.
func programs(s api.Space) set {
	all := derived(s)
	var list []api.Term
	for _, root := range s.Roots {
		list = append(list, all[root]...)
	}
	return setOf(list...)
}

func isSubset(a, b set) bool {
	for text := range a {
		if !b.has(text) {
			return false
		}
	}
	return true
}

// A block is terms of one symbol that have the same key. Blocks are the nodes of a version space.
type block struct {
	key   string
	terms []api.Term
}

// spaceOf returns the version space that has a node for each key of terms, with the rules of these terms. It has the nodes in order of size, then of symbol, then of their least terms. The roots are those of which isRoot says so.
func spaceOf(keys map[string]string, terms set, isRoot func(text string) bool) api.Space {
	blocks := map[string]*block{}
	var order []*block
	for _, t := range terms.sorted() {
		key := keys[write(t)]
		if blocks[key] == nil {
			blocks[key] = &block{key: key}
			order = append(order, blocks[key])
		}
		blocks[key].terms = append(blocks[key].terms, t)
	}
	slices.SortStableFunc(order, func(a, b *block) int {
		x, y := a.terms[0], b.terms[0]
		return cmp.Or(cmp.Compare(term.Size(x), term.Size(y)), cmp.Compare(rules[x.Rule][0], rules[y.Rule][0]), term.Compare(x, y))
	})
	var s api.Space
	number := map[string]int{}
	for i, b := range order {
		number[b.key] = i
		n := node(rules[b.terms[0].Rule][0], term.Size(b.terms[0]))
		for _, t := range b.terms {
			o := option(t.Rule)
			for _, arg := range t.Args {
				o.Args = append(o.Args, number[keys[write(arg)]])
			}
			n.Options = append(n.Options, o)
		}
		slices.SortFunc(n.Options, byRuleAndArgs)
		n.Options = slices.CompactFunc(n.Options, func(a, b api.Option) bool { return byRuleAndArgs(a, b) == 0 })
		s.Nodes = append(s.Nodes, n)
		if isRoot(write(b.terms[0])) {
			s.Roots = append(s.Roots, i)
		}
	}
	return s
}

// deterministic returns the subset graph of a version space, by its definition.
func deterministic(s api.Space) api.Space {
	nodesOf := map[string]string{}
	terms := set{}
	for i, list := range derived(s) {
		for text, t := range setOf(list...) {
			nodesOf[text] += strconv.Itoa(i) + ","
			terms[text] = t
		}
	}
	return spaceOf(nodesOf, terms, programs(s).has)
}

// canonical returns the canonical version space of a set, by its definition.
func canonical(programs set) api.Space {
	contexts := map[string][]string{}
	terms := set{}
	for _, t := range programs {
		addContexts(contexts, terms, t, "", "")
	}
	keys := map[string]string{}
	for text, t := range terms {
		list := contexts[text]
		slices.Sort(list)
		keys[text] = strconv.Itoa(rules[t.Rule][0]) + "/" + strconv.Itoa(term.Size(t)) + "/" + strings.Join(list, " ")
	}
	return spaceOf(keys, terms, programs.has)
}

// addContexts adds all subterms of t to terms, each with a text of the program in which it occurs, without the subterm: before has the text on the left of t, and behind that on the right.
func addContexts(contexts map[string][]string, terms set, t api.Term, before, behind string) {
	contexts[write(t)] = append(contexts[write(t)], before+"?"+behind)
	terms[write(t)] = t
	left := before + strconv.Itoa(t.Rule) + "("
	for i, arg := range t.Args {
		right := ")" + behind
		for k := len(t.Args) - 1; k > i; k-- {
			right = write(t.Args[k]) + right
		}
		addContexts(contexts, terms, arg, left, right)
		left += write(arg)
	}
}

// write returns a text that tells a term from all others.
func write(t api.Term) string {
	var b strings.Builder
	b.WriteString(strconv.Itoa(t.Rule))
	b.WriteByte('(')
	for _, arg := range t.Args {
		b.WriteString(write(arg))
	}
	b.WriteByte(')')
	return b.String()
}

func equalSpaces(a, b api.Space) bool {
	return slices.Equal(a.Roots, b.Roots) && slices.EqualFunc(a.Nodes, b.Nodes, func(m, n api.Node) bool {
		isSame := func(o, p api.Option) bool { return o.Rule == p.Rule && slices.Equal(o.Args, p.Args) }
		return m.Symbol == n.Symbol && m.Size == n.Size && slices.EqualFunc(m.Options, n.Options, isSame)
	})
}

func isZero(s api.Space) bool { return len(s.Nodes) == 0 && len(s.Roots) == 0 }

// isUnambiguous reports whether every term belongs to at most one node by at most one option.
func isUnambiguous(s api.Space) bool {
	isKnown := map[string]bool{}
	for _, list := range derived(s) {
		for _, t := range list {
			if isKnown[write(t)] {
				return false
			}
			isKnown[write(t)] = true
		}
	}
	return true
}

// copied returns a version space that shares no memory with s.
func copied(s api.Space) api.Space {
	c := api.Space{Roots: slices.Clone(s.Roots)}
	for _, n := range s.Nodes {
		n.Options = slices.Clone(n.Options)
		for i, o := range n.Options {
			n.Options[i].Args = slices.Clone(o.Args)
		}
		c.Nodes = append(c.Nodes, n)
	}
	return c
}
