package automaton_test

import (
	"testing"

	"synthesis/automaton"
)

type tree struct {
	kind int
	set  [4]uint64
	subs []tree
}

func look(t tree) (int, [4]uint64, []tree) { return t.kind, t.set, t.subs }

func class(b byte) tree {
	t := tree{kind: automaton.Class}
	t.set[b/64] = 1 << (b % 64)
	return t
}

func of(kind int, subs ...tree) tree { return tree{kind: kind, subs: subs} }

// The positions of a(b|)c*: a is the bit 1, b the bit 2, c the bit 3.
func TestMachine(t *testing.T) {
	m := automaton.Build(of(automaton.Cat, class('a'), of(automaton.Alt, class('b'), of(automaton.Empty)), of(automaton.Rep, class('c'))), look)
	for _, x := range []struct {
		name      string
		got, want automaton.State
	}{
		{"After(Start)", m.After(automaton.Start), 0b0010}, {"After(a)", m.After(0b0010), 0b1100}, {"After(b)", m.After(0b0100), 0b1000}, {"After(c)", m.After(0b1000), 0b1000}, {"After(all)", m.After(0b1111), 0b1110}, {"After(none)", m.After(0), 0},
		{"Before(a)", m.Before(0b0010), 0b0001}, {"Before(b)", m.Before(0b0100), 0b0010}, {"Before(c)", m.Before(0b1000), 0b1110}, {"Before(Start)", m.Before(automaton.Start), 0},
		{"Reads(a)", m.Reads('a'), 0b0010}, {"Reads(c)", m.Reads('c'), 0b1000}, {"Reads(d)", m.Reads('d'), 0}, {"Reads(0)", m.Reads(0), 0}, {"Reads(255)", m.Reads(255), 0},
		{"Last()", m.Last(), 0b1110},
	} {
		if x.got != x.want {
			t.Errorf("%s is %b, not %b", x.name, x.got, x.want)
		}
	}
	if m.Accepts(automaton.Start) || m.Accepts(0) || !m.Accepts(0b0101) {
		t.Error(m.Accepts(automaton.Start), m.Accepts(0), m.Accepts(0b0101))
	}
}

func TestEmptyText(t *testing.T) {
	nothing, empty := of(automaton.Nothing), of(automaton.Empty)
	for _, x := range []struct {
		tree tree
		want bool
	}{
		{nothing, false}, {empty, true}, {class('a'), false}, {of(automaton.Rep, nothing), true}, {of(automaton.Rep, class('a')), true}, {of(automaton.Cat, empty, empty), true}, {of(automaton.Cat, empty, nothing), false}, {of(automaton.Cat, class('a'), empty), false}, {of(automaton.Alt, nothing, empty), true}, {of(automaton.Alt, class('a'), nothing), false},
	} {
		if got := automaton.Build(x.tree, look).Accepts(automaton.Start); got != x.want {
			t.Errorf("%v accepts the empty text: %v", x.tree, got)
		}
	}
}
