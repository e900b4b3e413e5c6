package automaton

// A part is what the trees around a subtree need to know of it.
type part struct {
	empty       bool // it matches the empty text
	first, last State
}

// add adds the positions of a tree to m, and what follows them in this tree.
func add[T any](m *Machine, tree T, look func(T) (int, [4]uint64, []T)) part {
	kind, set, subs := look(tree)
	var whole part
	switch kind {
	case Empty:
		whole.empty = true
	case Class:
		whole = m.addPosition(set)
	case Cat:
		whole.empty = true
		for _, sub := range subs {
			whole = m.join(whole, add(m, sub, look))
		}
	case Alt:
		for _, sub := range subs {
			p := add(m, sub, look)
			whole = part{whole.empty || p.empty, whole.first | p.first, whole.last | p.last}
		}
	case Rep:
		whole = add(m, subs[0], look)
		m.link(whole.last, whole.first)
		whole.empty = true
	}
	return whole
}

func (m *Machine) addPosition(set [4]uint64) part {
	x := State(1) << len(m.positions)
	m.positions = append(m.positions, position{set: set})
	return part{first: x, last: x}
}

// join returns what p followed by q is.
func (m *Machine) join(p, q part) part {
	m.link(p.last, q.first)
	whole := part{p.empty && q.empty, p.first, q.last}
	if p.empty {
		whole.first |= q.first
	}
	if q.empty {
		whole.last |= p.last
	}
	return whole
}

// link lets each position of next follow each one of s.
func (m *Machine) link(s, next State) {
	for i := range m.positions {
		if s>>i&1 == 1 {
			m.positions[i].next |= next
		}
	}
}
