package tally

import (
	"synthesis/api"
	"synthesis/canon"
)

// programs are the programs of a version space, whose numbers are at most MaxCount.
type programs struct {
	// form is the deterministic form of the version space: each program belongs to one node by one option.
	form api.Space
	// count returns the number of terms of a node.
	count func(node int) int64
	// bySize has the numbers of programs of the sizes 1, 2, and so on, up to the greatest program.
	bySize []int64
}

// tooMany stands for all numbers that are greater than MaxCount.
const tooMany = api.MaxCount + 1

// programsOf counts the programs of a version space.
func programsOf(s api.Space) (programs, api.Errno) {
	form, e := canon.Deterministic(s)
	if e != api.OK {
		return programs{}, e
	}
	p := programs{form: form, count: counterOf(form.Nodes)}
	var all int64
	for _, root := range form.Roots {
		for size := form.Nodes[root].Size; len(p.bySize) < size; {
			p.bySize = append(p.bySize, 0)
		}
		n := p.count(root)
		if all = sum(all, n); all == tooMany {
			return programs{}, api.ErrMany
		}
		p.bySize[form.Nodes[root].Size-1] += n
	}
	return p, api.OK
}

// counterOf returns a function that counts the terms of nodes. It counts those of a node when they are asked for, since there may be very many terms that no program has.
func counterOf(nodes []api.Node) func(node int) int64 {
	// Every node has terms, so that 0 is a number that is not known yet.
	known := make([]int64, len(nodes))
	var count func(node int) int64
	count = func(node int) int64 {
		if known[node] > 0 {
			return known[node]
		}
		for _, o := range nodes[node].Options {
			ways := int64(1)
			for _, arg := range o.Args {
				ways = product(ways, count(arg))
			}
			known[node] = sum(known[node], ways)
		}
		return known[node]
	}
	return count
}

// sum returns a + b, or tooMany. Both are from 0 to tooMany.
func sum(a, b int64) int64 { return min(a+b, tooMany) }

// product returns a * b, or tooMany. Both are from 1 to tooMany.
func product(a, b int64) int64 {
	if a > api.MaxCount/b {
		return tooMany
	}
	return a * b
}
