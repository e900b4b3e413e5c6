package pattern

import (
	"synthesis/api"
	"synthesis/automaton"
)

// Same reports whether two patterns match the same texts.
func Same(p, q string) (bool, api.Errno) {
	a, e := compile(p)
	if e != api.OK {
		return false, e
	}
	b, e := compile(q)
	if e != api.OK {
		return false, e
	}
	type pair struct{ a, b automaton.State }
	stepA, stepB := stepper(a), stepper(b)
	pairs, _, e := explore(pair{automaton.Start, automaton.Start}, func(x pair) []pair {
		nextA, nextB := stepA(x.a), stepB(x.b)
		next := make([]pair, len(nextA))
		for i := range next {
			next[i] = pair{nextA[i], nextB[i]}
		}
		return next
	})
	if e != api.OK {
		return false, e
	}
	for _, x := range pairs {
		if a.Accepts(x.a) != b.Accepts(x.b) {
			return false, api.OK
		}
	}
	return true, api.OK
}

// Words returns how many texts of a length are matched.
func Words(p string, length int) (int64, api.Errno) {
	m, e := compile(p)
	if e != api.OK {
		return 0, e
	}
	if length < 0 || length > api.MaxText {
		return 0, api.ErrRange
	}
	states, next, e := explore(automaton.Start, stepper(m))
	if e != api.OK {
		return 0, e
	}
	counts := make([]int64, len(states))
	for i, state := range states {
		if m.Accepts(state) {
			counts[i] = 1
		}
	}
	for range length {
		counts = longer(counts, next)
	}
	if counts[0] > api.MaxCount {
		return 0, api.ErrMany
	}
	return counts[0], api.OK
}

// longer returns, for each state, how many texts that are longer by one byte than those of counts lead from it
// to a match. Numbers beyond MaxCount become MaxCount + 1: exact ones could overflow.
func longer(counts []int64, next [][]int) []int64 {
	sums := make([]int64, len(counts))
	for i := range next {
		for _, to := range next[i] {
			sums[i] = min(sums[i]+counts[to], api.MaxCount+1)
		}
	}
	return sums
}

// stepper returns the function that gives the states after a state and each byte of the alphabet.
func stepper(m automaton.Machine) func(automaton.State) []automaton.State {
	var reads []automaton.State
	for b := byte(firstByte); b <= lastByte; b++ {
		reads = append(reads, m.Reads(b))
	}
	return func(s automaton.State) []automaton.State {
		after := m.After(s)
		next := make([]automaton.State, len(reads))
		for i, r := range reads {
			next[i] = after & r
		}
		return next
	}
}

// explore returns start and everything that next leads to from there, and for each of them
// the indices of what next leads to; ErrLimit if there are more than MaxNodes of them.
func explore[S comparable](start S, next func(S) []S) ([]S, [][]int, api.Errno) {
	found := []S{start}
	index := map[S]int{start: 0}
	var edges [][]int
	for i := 0; i < len(found); i++ {
		var to []int
		for _, x := range next(found[i]) {
			k, known := index[x]
			if !known {
				k = len(found)
				index[x] = k
				found = append(found, x)
			}
			to = append(to, k)
		}
		if len(found) > api.MaxNodes {
			return nil, nil, api.ErrLimit
		}
		edges = append(edges, to)
	}
	return found, edges, api.OK
}
