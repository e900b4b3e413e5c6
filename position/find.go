package position

import (
	"iter"

	"synthesis/api"
	"synthesis/automaton"
	"synthesis/pattern"
)

// find returns the matches of p in s, in order.
func find(p, s string) (iter.Seq[[2]int], api.Errno) {
	t, _, e := pattern.Parse(p)
	if e != api.OK {
		return nil, e
	}
	m := automaton.Build(t, func(t pattern.Tree) (int, [4]uint64, []pattern.Tree) { return t.Kind, t.Set, t.Subs })
	return matches(m, s), api.OK
}

// matches produces the matches of the pattern of m. The whole takes time in proportion to the length of s,
// since no search reads further than to the end of the match that it finds.
func matches(m automaton.Machine, s string) iter.Seq[[2]int] {
	hopeful := hopefulStates(m, s)
	return func(yield func([2]int) bool) {
		from := 0
	search:
		for from < len(s) {
			state := automaton.Start
			for to := from; ; to++ {
				state = m.After(state) & hopeful[to]
				if state != 0 {
					continue
				}
				if to > from && !yield([2]int{from, to}) {
					return
				}
				from = max(from+1, to)
				continue search
			}
		}
	}
}

// hopefulStates returns, for each offset of s, the positions that read the byte there and from which the text
// that follows leads to the end of a match. There are none at the offset len(s).
func hopefulStates(m automaton.Machine, s string) []automaton.State {
	states := make([]automaton.State, len(s)+1)
	for i := len(s) - 1; i >= 0; i-- {
		states[i] = m.Reads(s[i]) & (m.Last() | m.Before(states[i+1]))
	}
	return states
}
