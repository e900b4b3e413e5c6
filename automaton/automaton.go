// Package automaton has the automata of regular expressions, by the positions that shared/doc/05-pattern.md defines.
// It is no layer: pattern and position share it, because the functions of pattern that the document lists
// do not show how a match can go on in the middle of a text.
package automaton

// The kinds of trees, with the numbers that package pattern gives them.
const (
	Nothing = 1
	Empty   = 2
	Class   = 3
	Cat     = 4
	Alt     = 5
	Rep     = 6
)

// A State is a set of positions, a bit for each. Bit 0 is no position of the tree, but stands for the beginning of the text.
type State uint64

// Start is the state after the empty text.
const Start State = 1

// A Machine is the automaton of a tree that has at most 63 positions.
type Machine struct {
	positions []position
	last      State
}

type position struct {
	set  [4]uint64 // the bytes that it reads
	next State     // what can follow it
}

// Build returns the automaton of a tree. The kind of a tree, its set and its subtrees are told by look,
// since the type of trees belongs to package pattern, which imports this one.
func Build[T any](tree T, look func(T) (kind int, set [4]uint64, subs []T)) Machine {
	m := Machine{positions: make([]position, 1)}
	whole := add(&m, tree, look)
	m.positions[0].next = whole.first
	m.last = whole.last
	if whole.empty {
		m.last |= Start
	}
	return m
}

// After returns the positions that can follow one of s.
func (m Machine) After(s State) State {
	var after State
	for i := range m.positions {
		if s>>i&1 == 1 {
			after |= m.positions[i].next
		}
	}
	return after
}

// Before returns what one of the positions of s can follow.
func (m Machine) Before(s State) State {
	var before State
	for i := range m.positions {
		if m.positions[i].next&s != 0 {
			before |= 1 << i
		}
	}
	return before
}

// Reads returns the positions that read a byte.
func (m Machine) Reads(b byte) State {
	var reads State
	for i := range m.positions {
		if m.positions[i].set[b/64]>>(b%64)&1 == 1 {
			reads |= 1 << i
		}
	}
	return reads
}

// Last returns the positions at which a text that is matched can end, with Start if the empty text is matched.
func (m Machine) Last() State { return m.last }

// Accepts reports whether a text after which the state is s is matched.
func (m Machine) Accepts(s State) bool { return s&m.last != 0 }
