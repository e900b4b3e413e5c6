package spacetest

import (
	"cmp"
	"slices"
	"strconv"
	"strings"

	"synthesis/api"
	"synthesis/term"
)

// A block is terms of one symbol that have the same key. Blocks are the nodes of a version space.
type block struct {
	key   string
	terms []api.Term
}

// spaceOf returns the version space that has a node for each key of terms, with the rules of these terms. It has the nodes in order of size, then of symbol, then of their least terms. The roots are those of which isRoot says so.
func (r Rules) spaceOf(keys map[string]string, terms Set, isRoot func(text string) bool) api.Space {
	blocks := map[string]*block{}
	var order []*block
	for _, t := range terms.Sorted() {
		key := keys[Write(t)]
		if blocks[key] == nil {
			blocks[key] = &block{key: key}
			order = append(order, blocks[key])
		}
		blocks[key].terms = append(blocks[key].terms, t)
	}
	slices.SortStableFunc(order, func(a, b *block) int {
		x, y := a.terms[0], b.terms[0]
		return cmp.Or(cmp.Compare(term.Size(x), term.Size(y)), cmp.Compare(r[x.Rule][0], r[y.Rule][0]), term.Compare(x, y))
	})
	var s api.Space
	number := map[string]int{}
	for i, b := range order {
		number[b.key] = i
		n := Node(r[b.terms[0].Rule][0], term.Size(b.terms[0]))
		for _, t := range b.terms {
			o := Option(t.Rule)
			for _, arg := range t.Args {
				o.Args = append(o.Args, number[keys[Write(arg)]])
			}
			n.Options = append(n.Options, o)
		}
		slices.SortFunc(n.Options, byRuleAndArgs)
		n.Options = slices.CompactFunc(n.Options, func(a, b api.Option) bool { return byRuleAndArgs(a, b) == 0 })
		s.Nodes = append(s.Nodes, n)
		if isRoot(Write(b.terms[0])) {
			s.Roots = append(s.Roots, i)
		}
	}
	return s
}

// Deterministic returns the subset graph of a version space, by its definition.
func (r Rules) Deterministic(s api.Space) api.Space {
	return r.Divided(s, func(api.Term) string { return "" })
}

// Divided returns the subset graph of a version space whose states are divided by a key of their terms, by its definition.
func (r Rules) Divided(s api.Space, keyOf func(api.Term) string) api.Space {
	keys := map[string]string{}
	terms := Set{}
	for i, list := range Derived(s) {
		for text, t := range SetOf(list...) {
			keys[text] += strconv.Itoa(i) + ","
			terms[text] = t
		}
	}
	for text, t := range terms {
		keys[text] += keyOf(t)
	}
	return r.spaceOf(keys, terms, Programs(s).Has)
}

// Canonical returns the canonical version space of a set, by its definition.
func (r Rules) Canonical(programs Set) api.Space {
	contexts := map[string][]string{}
	terms := Set{}
	for _, t := range programs {
		addContexts(contexts, terms, t, "", "")
	}
	keys := map[string]string{}
	for text, t := range terms {
		list := contexts[text]
		slices.Sort(list)
		keys[text] = strconv.Itoa(r[t.Rule][0]) + "/" + strconv.Itoa(term.Size(t)) + "/" + strings.Join(list, " ")
	}
	return r.spaceOf(keys, terms, programs.Has)
}

// addContexts adds all subterms of t to terms, each with a text of the program in which it occurs, without the subterm: before has the text on the left of t, and behind that on the right.
func addContexts(contexts map[string][]string, terms Set, t api.Term, before, behind string) {
	contexts[Write(t)] = append(contexts[Write(t)], before+"?"+behind)
	terms[Write(t)] = t
	left := before + strconv.Itoa(t.Rule) + "("
	for i, arg := range t.Args {
		right := ")" + behind
		for k := len(t.Args) - 1; k > i; k-- {
			right = Write(t.Args[k]) + right
		}
		addContexts(contexts, terms, arg, left, right)
		left += Write(arg)
	}
}
