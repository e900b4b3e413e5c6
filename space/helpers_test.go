package space_test

import (
	"cmp"
	"slices"
	"strconv"
	"strings"

	"synthesis/api"
	"synthesis/notation"
	"synthesis/term"
)

// language returns the language with this text.
func language(text string) api.Language {
	l, line, e := notation.ParseLanguage(text)
	if e != api.OK {
		panic("line " + strconv.Itoa(line) + " of " + text)
	}
	return l
}

// sums returns the language of the examples.
func sums() api.Language {
	return language("language sums\ninputs int\nsymbol S int\nrule S = in0\nrule S = add(S, S)\n")
}

// choices returns a language with several symbols, and operators with one, two and three arguments. The last symbol has no term.
func choices() api.Language {
	return language("language choices\ninputs int\nsymbol S int\nsymbol B bool\nsymbol N int\nrule S = in0\nrule S = ifint(B, S, S)\nrule B = true\nrule S = 0\nrule S = add(S, S)\nrule B = less(S, S)\nrule B = not(B)\nrule S = 1\nrule S = neg(S)\nrule B = false\nrule N = neg(N)\nrule S = sub(S, N)\n")
}

// invalid returns languages that are not valid.
func invalid() []api.Language {
	noName, noSymbols, twice := sums(), sums(), sums()
	noName.Name = ""
	noSymbols.Symbols = nil
	twice.Rules = append(twice.Rules, twice.Rules[0])
	return []api.Language{{}, noName, noSymbols, twice}
}

// leaf returns a node of size 1 with rules without arguments.
func leaf(symbol int, rules ...int) api.Node {
	n := api.Node{Symbol: symbol, Size: 1}
	for _, rule := range rules {
		n.Options = append(n.Options, api.Option{Rule: rule})
	}
	return n
}

// node returns a node with options.
func node(symbol, size int, options ...api.Option) api.Node {
	return api.Node{Symbol: symbol, Size: size, Options: options}
}

// option returns an option of a rule with arguments.
func option(rule int, args ...int) api.Option { return api.Option{Rule: rule, Args: args} }

// derivation returns the term of a rule with arguments.
func derivation(rule int, args ...api.Term) api.Term { return api.Term{Rule: rule, Args: args} }

// numbersFrom returns the numbers from one to another.
func numbersFrom(from, to int) []int {
	var list []int
	for n := from; n <= to; n++ {
		list = append(list, n)
	}
	return list
}

// malformed returns version spaces that are not well-formed, though they have programs where they are.
func malformed() []api.Space {
	good := []api.Node{leaf(0, 0), node(0, 3, option(1, 0, 0))}
	return []api.Space{
		{Nodes: good, Roots: []int{0, 2}},
		{Nodes: good, Roots: []int{1, 0}},
		{Nodes: good, Roots: []int{0, 0}},
		{Nodes: good, Roots: []int{-1, 0}},
		{Nodes: []api.Node{leaf(0, 0), node(0, 4, option(1, 0, 0))}, Roots: []int{0}},
		{Nodes: []api.Node{leaf(-1, 0)}, Roots: []int{0}},
		{Nodes: []api.Node{leaf(0, -1, 0)}, Roots: []int{0}},
		{Nodes: []api.Node{leaf(0, 1, 0)}, Roots: []int{0}},
		{Nodes: []api.Node{leaf(0, 0), leaf(1, 0)}, Roots: []int{0}},
		{Nodes: []api.Node{leaf(0, 0), {Size: 25}}, Roots: []int{0}},
		{Nodes: []api.Node{leaf(0, 0), node(0, 2, option(1, 1))}, Roots: []int{0}},
		{Nodes: slices.Repeat([]api.Node{leaf(0, 0)}, api.MaxNodes+1), Roots: []int{0}},
		{Nodes: []api.Node{leaf(0, numbersFrom(0, api.MaxOptions)...)}, Roots: []int{0}},
	}
}

// dice are numbers that are spread evenly, and always the same.
type dice uint64

// roll returns a number from 0 to count - 1.
func (d *dice) roll(count int) int {
	*d = *d*6364136223846793005 + 1442695040888963407
	return int(uint64(*d>>33) % uint64(count))
}

// randomSpace returns a version space of a language with some nodes, whose sizes are at most 7. Nodes do not ascend by size, and some have no terms.
func randomSpace(d *dice, l api.Language, nodes int) api.Space {
	var s api.Space
	for range nodes {
		n := randomNode(d, l, s.Nodes)
		for rule, r := range l.Rules {
			if r.Symbol == n.Symbol {
				addOptions(d, &n, s.Nodes, api.Option{Rule: rule}, r.Args, n.Size-1)
			}
		}
		slices.SortFunc(n.Options, func(a, b api.Option) int {
			return cmp.Or(cmp.Compare(a.Rule, b.Rule), slices.Compare(a.Args, b.Args))
		})
		s.Nodes = append(s.Nodes, n)
	}
	for i := range s.Nodes {
		if d.roll(4) == 0 {
			s.Roots = append(s.Roots, i)
		}
	}
	return s
}

// randomNode returns a node without options that has the symbol and the size of some option, if that is not too great.
func randomNode(d *dice, l api.Language, nodes []api.Node) api.Node {
	r := l.Rules[d.roll(len(l.Rules))]
	n := api.Node{Symbol: r.Symbol, Size: 1}
	for _, symbol := range r.Args {
		for range 3 {
			if i := d.roll(len(nodes) + 1); i < len(nodes) && nodes[i].Symbol == symbol {
				n.Size += nodes[i].Size
				break
			}
		}
	}
	if n.Size > 7 {
		n.Size = 1
	}
	return n
}

// addOptions adds some of the options that begin with o and have further arguments of the symbols.
func addOptions(d *dice, n *api.Node, nodes []api.Node, o api.Option, symbols []int, total int) {
	if len(symbols) == 0 {
		if total == 0 && d.roll(3) > 0 {
			n.Options = append(n.Options, o)
		}
		return
	}
	for i, m := range nodes {
		if m.Symbol == symbols[0] && m.Size <= total {
			addOptions(d, n, nodes, api.Option{Rule: o.Rule, Args: append(slices.Clone(o.Args), i)}, symbols[1:], total-m.Size)
		}
	}
}

// derived has the derivations of each node of a version space, by its definition. A term that is derived by several options is there several times.
func derived(s api.Space) [][]api.Term {
	all := make([][]api.Term, len(s.Nodes))
	for i, n := range s.Nodes {
		for _, o := range n.Options {
			lists := [][]api.Term{nil}
			for _, arg := range o.Args {
				var longer [][]api.Term
				for _, list := range lists {
					for _, t := range all[arg] {
						longer = append(longer, append(slices.Clone(list), t))
					}
				}
				lists = longer
			}
			for _, args := range lists {
				all[i] = append(all[i], derivation(o.Rule, args...))
			}
		}
	}
	return all
}

// programs returns the programs of a version space in order, by its definition.
func programs(s api.Space) []api.Term {
	all := derived(s)
	var list []api.Term
	for _, root := range s.Roots {
		list = append(list, all[root]...)
	}
	return sorted(list)
}

// sorted returns the terms of a list in order, each once.
func sorted(list []api.Term) []api.Term {
	list = slices.Clone(list)
	slices.SortFunc(list, term.Compare)
	return slices.CompactFunc(list, func(a, b api.Term) bool { return term.Compare(a, b) == 0 })
}

// isUnambiguous reports whether every term belongs to at most one node by at most one option.
func isUnambiguous(s api.Space) bool {
	isKnown := map[string]bool{}
	for _, list := range derived(s) {
		for _, t := range list {
			if isKnown[write(t)] {
				return false
			}
			isKnown[write(t)] = true
		}
	}
	return true
}

// isTrim reports whether every node has a term and is needed by some program.
func isTrim(s api.Space) bool {
	isPart := map[string]bool{}
	for _, t := range programs(s) {
		for _, part := range term.Subterms(t) {
			isPart[write(part)] = true
		}
	}
	for _, list := range derived(s) {
		if !slices.ContainsFunc(list, func(t api.Term) bool { return isPart[write(t)] }) {
			return false
		}
	}
	return true
}

// upTo returns the terms of a symbol up to a size in order, by the definition of terms.
func upTo(l api.Language, symbol, most int) []api.Term {
	known := map[[2]int][]api.Term{}
	var lists func(symbols []int, total int) [][]api.Term
	lists = func(symbols []int, total int) [][]api.Term {
		if len(symbols) == 0 && total == 0 {
			return [][]api.Term{nil}
		}
		if len(symbols) == 0 {
			return nil
		}
		var all [][]api.Term
		for size := 1; size <= total; size++ {
			for _, rest := range lists(symbols[1:], total-size) {
				for _, t := range known[[2]int{symbols[0], size}] {
					all = append(all, append([]api.Term{t}, rest...))
				}
			}
		}
		return all
	}
	var found []api.Term
	for size := 1; size <= most; size++ {
		for rule, r := range l.Rules {
			for _, args := range lists(r.Args, size-1) {
				key := [2]int{r.Symbol, size}
				known[key] = append(known[key], derivation(rule, args...))
			}
		}
		found = append(found, known[[2]int{symbol, size}]...)
	}
	return sorted(found)
}

// write returns a text that tells a term from all others.
func write(t api.Term) string {
	var b strings.Builder
	b.WriteString(strconv.Itoa(t.Rule))
	b.WriteByte('(')
	for _, arg := range t.Args {
		b.WriteString(write(arg))
	}
	b.WriteByte(')')
	return b.String()
}

func equalTerms(a, b []api.Term) bool {
	return slices.EqualFunc(a, b, func(x, y api.Term) bool { return write(x) == write(y) })
}

func equalOptions(a, b []api.Option) bool {
	return slices.EqualFunc(a, b, func(o, p api.Option) bool { return o.Rule == p.Rule && slices.Equal(o.Args, p.Args) })
}

func equalSpaces(a, b api.Space) bool {
	return slices.Equal(a.Roots, b.Roots) && slices.EqualFunc(a.Nodes, b.Nodes, func(m, n api.Node) bool {
		return m.Symbol == n.Symbol && m.Size == n.Size && equalOptions(m.Options, n.Options)
	})
}

func isZero(s api.Space) bool { return len(s.Nodes) == 0 && len(s.Roots) == 0 }

// copied returns a version space that shares no memory with s.
func copied(s api.Space) api.Space {
	c := api.Space{Roots: slices.Clone(s.Roots)}
	for _, n := range s.Nodes {
		n.Options = slices.Clone(n.Options)
		for i, o := range n.Options {
			n.Options[i].Args = slices.Clone(o.Args)
		}
		c.Nodes = append(c.Nodes, n)
	}
	return c
}
