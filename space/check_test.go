package space_test

import (
	"math"
	"testing"

	"synthesis/api"
	"synthesis/grammar"
	"synthesis/space"
	"synthesis/spacetest"
)

// P25.1: version spaces that belong to a language.
func TestCheck(t *testing.T) {
	var d spacetest.Dice
	l := choices()
	for range 300 {
		if s := spacetest.RulesOf(l).Random(&d, d.Roll(20)); space.Check(l, s) != api.OK {
			t.Fatalf("Check of %v is %d", s, space.Check(l, s))
		}
	}
	for i, s := range []api.Space{
		{},
		{Nodes: []api.Node{{Size: 24}, {Symbol: 2, Size: 7}}, Roots: []int{0, 1}},
		{Nodes: []api.Node{spacetest.Leaf(0, 0, 3, 7), spacetest.Leaf(1, 2, 9), spacetest.Node(1, 3, spacetest.Option(5, 0, 0)), spacetest.Node(0, 6, spacetest.Option(1, 2, 0, 0))}, Roots: []int{2}},
	} {
		if e := space.Check(l, s); e != api.OK {
			t.Errorf("case %d: %d", i, e)
		}
	}
}

// P25.1: the errors of nodes and options, in their order. The rules of the language are, by their numbers: S = in0, S = ifint(B, S, S), B = true, S = 0, S = add(S, S), B = less(S, S), B = not(B), and others.
func TestCheckErrors(t *testing.T) {
	l := choices()
	for i, x := range []struct {
		nodes []api.Node
		want  api.Errno
	}{
		{[]api.Node{spacetest.Leaf(3)}, api.ErrRange},
		{[]api.Node{spacetest.Leaf(math.MaxInt)}, api.ErrRange},
		{[]api.Node{spacetest.Leaf(0, 12)}, api.ErrRange},
		{[]api.Node{spacetest.Leaf(0, math.MaxInt)}, api.ErrRange},
		{[]api.Node{spacetest.Leaf(0, 2)}, api.ErrForm},
		{[]api.Node{spacetest.Leaf(1, 0)}, api.ErrForm},
		{[]api.Node{spacetest.Leaf(2, 0)}, api.ErrForm},
		// Too few and too many arguments.
		{[]api.Node{spacetest.Leaf(0, 1)}, api.ErrForm},
		{[]api.Node{spacetest.Leaf(0, 8)}, api.ErrForm},
		{[]api.Node{spacetest.Leaf(0, 0), spacetest.Node(0, 2, spacetest.Option(4, 0))}, api.ErrForm},
		{[]api.Node{spacetest.Leaf(0, 0), spacetest.Node(0, 3, spacetest.Option(8, 0, 0))}, api.ErrForm},
		{[]api.Node{spacetest.Leaf(0, 0), spacetest.Node(0, 2, spacetest.Option(3, 0))}, api.ErrForm},
		{[]api.Node{spacetest.Leaf(0, 0), spacetest.Node(0, 2, spacetest.Option(0, 0))}, api.ErrForm},
		// Arguments of wrong symbols.
		{[]api.Node{spacetest.Leaf(0, 0), spacetest.Node(1, 2, spacetest.Option(6, 0))}, api.ErrForm},
		{[]api.Node{spacetest.Leaf(0, 0), spacetest.Leaf(1, 2), spacetest.Node(0, 3, spacetest.Option(4, 0, 1))}, api.ErrForm},
		{[]api.Node{spacetest.Leaf(0, 0), spacetest.Leaf(1, 2), spacetest.Node(0, 3, spacetest.Option(4, 1, 0))}, api.ErrForm},
		{[]api.Node{spacetest.Leaf(0, 0), spacetest.Leaf(1, 2), spacetest.Node(0, 4, spacetest.Option(1, 0, 1, 0))}, api.ErrForm},
		{[]api.Node{spacetest.Leaf(0, 0), spacetest.Leaf(2), spacetest.Node(0, 2, spacetest.Option(8, 1))}, api.ErrForm},
		// The first node with an error counts, and in it the symbol before the options, and then the first option.
		{[]api.Node{spacetest.Leaf(0, 2), spacetest.Leaf(3)}, api.ErrForm},
		{[]api.Node{spacetest.Leaf(3), spacetest.Leaf(0, 2)}, api.ErrRange},
		{[]api.Node{spacetest.Leaf(3, 2)}, api.ErrRange},
		{[]api.Node{spacetest.Leaf(0, 2, 12)}, api.ErrForm},
		{[]api.Node{spacetest.Leaf(0, 0, 12), spacetest.Leaf(1, 1)}, api.ErrRange},
		{[]api.Node{spacetest.Leaf(0, 0), spacetest.Leaf(1, 1), spacetest.Leaf(0, 12)}, api.ErrForm},
	} {
		if e := space.Check(l, api.Space{Nodes: x.nodes}); e != x.want {
			t.Errorf("case %d: %d, not %d", i, e, x.want)
		}
	}
	// What is not well-formed counts before the nodes, and the language before that.
	faulty := []api.Space{
		{Nodes: []api.Node{spacetest.Leaf(3), {Size: 25}}},
		{Nodes: []api.Node{spacetest.Leaf(0, 12), spacetest.Leaf(0, 2)}, Roots: []int{2}},
		{Nodes: []api.Node{spacetest.Leaf(3, 12), spacetest.Leaf(0, 12)}},
	}
	for i, s := range append(spacetest.Malformed(), faulty...) {
		if e := space.Check(l, s); e != api.ErrForm {
			t.Errorf("version space %d: %d", i, e)
		}
		for _, l := range invalid() {
			if e := space.Check(l, s); e == api.OK || e != grammar.Check(l) {
				t.Errorf("%v: %d", l, e)
			}
		}
	}
}

// P25.1: each change of one number of a version space is noticed, if there is an error.
func TestCheckOfChanges(t *testing.T) {
	l := choices()
	s := api.Space{
		Nodes: []api.Node{spacetest.Leaf(0, 0, 3), spacetest.Leaf(1, 2), spacetest.Node(0, 2, spacetest.Option(8, 0)), spacetest.Node(0, 3, spacetest.Option(4, 0, 0), spacetest.Option(8, 2)), spacetest.Node(0, 5, spacetest.Option(1, 1, 0, 2))},
		Roots: []int{2, 4},
	}
	// fits follows the definition of a version space that belongs to a language.
	fits := func(s api.Space) bool {
		for i, n := range s.Nodes {
			for k, o := range n.Options {
				size := 1
				r := api.Rule{Symbol: -1}
				if o.Rule >= 0 && o.Rule < len(l.Rules) {
					r = l.Rules[o.Rule]
				}
				if r.Symbol != n.Symbol || len(r.Args) != len(o.Args) || k > 0 && n.Options[k-1].Rule > o.Rule {
					return false
				}
				for a, arg := range o.Args {
					if arg < 0 || arg >= i || s.Nodes[arg].Symbol != r.Args[a] {
						return false
					}
					size += s.Nodes[arg].Size
				}
				if size != n.Size || k > 0 && n.Options[k-1].Rule == o.Rule {
					return false
				}
			}
		}
		return 0 <= s.Roots[0] && s.Roots[0] < s.Roots[1] && s.Roots[1] < len(s.Nodes)
	}
	right := 0
	for _, place := range places(&s) {
		before := *place
		for n := -1; n <= 13; n++ {
			*place = n
			if e := space.Check(l, s); (e == api.OK) != fits(s) {
				t.Errorf("%v: %d", s, e)
			}
			if fits(s) {
				right++
			}
		}
		*place = before
	}
	if right < len(places(&s)) || right > 3*len(places(&s)) {
		t.Error(right)
	}
}

// places returns the addresses of all numbers in a version space.
func places(s *api.Space) []*int {
	var all []*int
	for i := range s.Nodes {
		n := &s.Nodes[i]
		all = append(all, &n.Symbol, &n.Size)
		for k := range n.Options {
			o := &n.Options[k]
			all = append(all, &o.Rule)
			for a := range o.Args {
				all = append(all, &o.Args[a])
			}
		}
	}
	for i := range s.Roots {
		all = append(all, &s.Roots[i])
	}
	return all
}
