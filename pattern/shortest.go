package pattern

import (
	"synthesis/api"
	"synthesis/automaton"
)

// Shortest returns the least text that is matched, by length and then byte by byte.
func Shortest(p string) (string, api.Errno) {
	m, e := compile(p)
	if e != api.OK {
		return "", e
	}
	layers, ok := distances(m)
	if !ok {
		return "", api.ErrNone
	}
	var text []byte
	state := automaton.Start
	for k := len(layers) - 2; k >= 0; k-- {
		state = m.After(state) & layers[k]
		b := leastRead(m, state)
		state &= m.Reads(b)
		text = append(text, b)
	}
	return string(text), api.OK
}

// distances returns, for 0 bytes, 1 byte and so on, the positions from which so many bytes lead to the end of a match,
// and no fewer; up to the number of bytes that lead there from the start. It returns false if none do.
// The states after all texts would be too many to look for the first one that is matched.
func distances(m automaton.Machine) ([]automaton.State, bool) {
	var layers []automaton.State
	var seen automaton.State
	for layer := m.Last(); layer != 0; layer = m.Before(layer) &^ seen {
		layers = append(layers, layer)
		seen |= layer
		if seen&automaton.Start != 0 {
			return layers, true
		}
	}
	return nil, false
}

// leastRead returns the least byte that a position of s reads.
func leastRead(m automaton.Machine, s automaton.State) byte {
	b := byte(firstByte)
	for b < lastByte && m.Reads(b)&s == 0 {
		b++
	}
	return b
}
