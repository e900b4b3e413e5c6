package tally

import (
	"maps"
	"slices"

	"synthesis/api"
	"synthesis/term"
)

// A share is a rule with which programs go on, and the number of these programs.
type share struct {
	rule  int
	count int64
}

// walk goes through the rules of a program of a size in preorder, and returns this program. At each place, pick chooses one of the rules that programs with the same rules before have there: they are in ascending order.
func (p *programs) walk(size int, pick func([]share) int) api.Term {
	var visit func(weights map[int]int64) (api.Term, int)
	// visit goes through a term of a node, whose number it returns. The weights tell how many programs there are for each term of a node.
	visit = func(weights map[int]int64) (api.Term, int) {
		t := api.Term{Rule: pick(p.shares(weights))}
		ways := p.waysOf(weights, t.Rule)
		for i := range ways[0].args {
			arg, node := visit(p.weightsOf(ways, i))
			t.Args = append(t.Args, arg)
			ways = slices.DeleteFunc(ways, func(w way) bool { return w.args[i] != node })
		}
		// Only one option has all of these arguments.
		return t, ways[0].node
	}
	roots := map[int]int64{}
	for _, root := range p.form.Roots {
		if p.form.Nodes[root].Size == size {
			roots[root] = 1
		}
	}
	t, _ := visit(roots)
	return t
}

// shares returns the rules of the terms of nodes in ascending order, with the numbers of programs that have them.
func (p *programs) shares(weights map[int]int64) []share {
	counts := map[int]int64{}
	for node, weight := range weights {
		for _, o := range p.form.Nodes[node].Options {
			counts[o.Rule] += weight * p.choices(o.Args)
		}
	}
	var list []share
	for _, rule := range slices.Sorted(maps.Keys(counts)) {
		list = append(list, share{rule, counts[rule]})
	}
	return list
}

// choices returns the number of choices of terms, one of each of the nodes.
func (p *programs) choices(nodes []int) int64 {
	n := int64(1)
	for _, node := range nodes {
		n *= p.count(node)
	}
	return n
}

// A way is an option with a rule: the node that has it, with its weight, and its arguments.
type way struct {
	node   int
	weight int64
	args   []int
}

// waysOf returns the options of nodes with a rule.
func (p *programs) waysOf(weights map[int]int64, rule int) []way {
	var ways []way
	for _, node := range slices.Sorted(maps.Keys(weights)) {
		for _, o := range p.form.Nodes[node].Options {
			if o.Rule == rule {
				ways = append(ways, way{node, weights[node], o.Args})
			}
		}
	}
	return ways
}

// weightsOf returns the weights of the nodes that are argument number i of ways whose arguments before are chosen.
func (p *programs) weightsOf(ways []way, i int) map[int]int64 {
	weights := map[int]int64{}
	for _, w := range ways {
		weights[w.args[i]] += w.weight * p.choices(w.args[i+1:])
	}
	return weights
}

// nth returns the program number n of those that have a size.
func (p *programs) nth(size int, n int64) api.Term {
	return p.walk(size, func(list []share) int {
		i := 0
		for n >= list[i].count {
			n -= list[i].count
			i++
		}
		return list[i].rule
	})
}

// index returns the number of a program among those that have its size.
func (p *programs) index(t api.Term) int64 {
	rules := term.Rules(t)
	var n int64
	p.walk(len(rules), func(list []share) int {
		i := 0
		for list[i].rule != rules[0] {
			n += list[i].count
			i++
		}
		rules = rules[1:]
		return list[i].rule
	})
	return n
}
