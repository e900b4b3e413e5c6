package algebra_test

import (
	"slices"
	"testing"

	"synthesis/algebra"
	"synthesis/api"
	"synthesis/canon"
	"synthesis/space"
	"synthesis/spacetest"
	"synthesis/tally"
)

// The leaf that is used, and another one.
const marked, plain = 0, 1

// splitting returns a version space whose nodes are split where programs use the marked leaf. The root 2 has a program for each choice of a pair and of some leaves.
// The result has 2 nodes and 2 options for each pair, one option for each choice of the leaves and the pair that has the marked leaf, 3 more nodes and 2 more options, and a node and an option for each further root.
func splitting(pairs, leaves, further int) api.Space {
	nodes := []api.Node{spacetest.Leaf(0, marked, plain)}
	last := spacetest.Node(0, leaves+3)
	for i := range pairs {
		nodes = append(nodes, spacetest.Node(0, 2, spacetest.Option(1000+i, 0)))
		last.Options = append(last.Options, spacetest.Option(10000+i, append([]int{i + 1}, make([]int, leaves)...)...))
	}
	nodes = append(nodes, last)
	for i := range further {
		nodes = append(nodes, spacetest.Node(i+1, 2, spacetest.Option(20000+i, 0)))
	}
	return spacetest.Space(1+further, nodes...)
}

func sizeOf(s api.Space) (nodes, options int) {
	for _, n := range s.Nodes {
		options += len(n.Options)
	}
	return len(s.Nodes), options
}

// P28.3: results with as many nodes and options as the limits permit, and one more.
func TestUsingLimits(t *testing.T) {
	for i, x := range []struct {
		s              api.Space
		nodes, options int
	}{
		{splitting(1, 1, 0), 5, 7},
		{splitting(3, 2, 4), 13, 33},
		{splitting(2046, 1, 1), api.MaxNodes, 2 + 5*2046 + 1},
		{splitting(2046, 1, 2), 0, 0},
		{splitting(1927, 3, 7), 2*1927 + 10, api.MaxOptions},
		{splitting(1927, 3, 8), 0, 0},
		{wide(14), 3, 1<<14 - 1 + 2},
		{wide(15), 0, 0},
		{wide(23), 0, 0},
	} {
		if _, e := canon.Minimal(x.s); e != api.OK {
			t.Fatalf("case %d: %d", i, e)
		}
		want := api.OK
		if x.nodes == 0 {
			want = api.ErrLimit
		}
		s, e := algebra.Using(x.s, marked, true)
		if nodes, options := sizeOf(s); e != want || nodes != x.nodes || options != x.options {
			t.Errorf("case %d: %d nodes, %d options, %d", i, nodes, options, e)
		}
		rest, e := algebra.Using(x.s, marked, false)
		if e != api.OK || len(rest.Nodes) == 0 {
			t.Errorf("case %d: %d", i, e)
		}
		if want == api.OK {
			checkPrograms(t, x.s, s, rest)
		}
	}
}

// checkPrograms checks that the programs of s are those of two version spaces: some that use the marked leaf, and the others.
func checkPrograms(t *testing.T, s, marking, others api.Space) {
	t.Helper()
	if count(s) == 0 || count(marking)+count(others) != count(s) {
		t.Errorf("%d and %d programs are not %d", count(marking), count(others), count(s))
	}
	for isUsed, part := range map[bool]api.Space{true: marking, false: others} {
		last := count(part) - 1
		for n := last; n > max(-1, last-8); n-- {
			x, e := tally.Nth(part, n)
			if e != api.OK || uses(x, marked) != isUsed || !space.Contains(s, x) {
				t.Fatalf("%v, %d is not a program of this part", x, e)
			}
		}
		if again, e := canon.Minimal(part); e != api.OK || !spacetest.Equal(again, part) {
			t.Error("a part is not canonical")
		}
	}
}

// wide returns a version space with a program for each choice of some leaves.
func wide(leaves int) api.Space {
	return spacetest.Space(1, spacetest.Leaf(0, marked, plain), spacetest.Node(0, leaves+1, spacetest.Option(2, make([]int, leaves)...)))
}

// P28.3: version spaces with very many pairs of nodes or of options that are one in the result.
func TestUsingMerged(t *testing.T) {
	for i, x := range []struct {
		s              api.Space
		nodes, options int
	}{
		{joining(3000), 3005, 4*3000 + 3},
		{joining(4091), api.MaxNodes, 4*4091 + 3},
		{joining(4092), 0, 0},
		{covered(64), 6, 64 + 6},
		{distinguished(1000), 4, 1000 + 2 + 1<<13 - 1},
	} {
		want := api.OK
		if x.nodes == 0 {
			want = api.ErrLimit
		}
		s, e := algebra.Using(x.s, marked, true)
		if nodes, options := sizeOf(s); e != want || nodes != x.nodes || options != x.options {
			t.Errorf("case %d: %d nodes, %d options, %d", i, nodes, options, e)
		}
		rest, e := algebra.Using(x.s, marked, false)
		if e != api.OK {
			t.Errorf("case %d: %d", i, e)
		}
		if want == api.OK {
			checkPrograms(t, x.s, s, rest)
		}
	}
}

// joining returns a version space with so many nodes that have a term with the marked leaf and one without it. The terms without it occur in one context with the marked leaf, and each in one of its own without it.
func joining(count int) api.Space {
	nodes := []api.Node{spacetest.Leaf(0, marked), spacetest.Leaf(0, plain)}
	beside, alone := spacetest.Node(0, 4), spacetest.Node(0, 3)
	for i := range count {
		nodes = append(nodes, spacetest.Node(0, 2, spacetest.Option(1000+i, 0), spacetest.Option(1000+i, 1)))
		beside.Options = append(beside.Options, spacetest.Option(2, i+2, 0))
		alone.Options = append(alone.Options, spacetest.Option(10000+i, i+2))
	}
	return spacetest.Space(2, append(nodes, beside, alone)...)
}

// covered returns a version space with 2 to the power 10 choices for each of some rules, in programs that have the marked leaf beside them.
func covered(count int) api.Space {
	nodes := []api.Node{spacetest.Leaf(0, marked), spacetest.Leaf(0, plain), spacetest.Node(0, 2, spacetest.Option(2, 0), spacetest.Option(2, 1))}
	inner := spacetest.Node(0, 21)
	for i := range count {
		inner.Options = append(inner.Options, spacetest.Option(1000+i, slices.Repeat([]int{2}, 10)...))
	}
	return spacetest.Space(2, append(nodes, inner, spacetest.Node(0, 23, spacetest.Option(3, 0, 3)), spacetest.Node(1, 23, spacetest.Option(4, 0, 3)))...)
}

// distinguished returns a version space with 2 to the power 13 choices for each of some leaves, which differ only in programs without the marked leaf.
func distinguished(count int) api.Space {
	nodes := []api.Node{spacetest.Leaf(0, marked, plain)}
	inner, alone := spacetest.Node(0, 15), spacetest.Node(0, 2)
	for i := range count {
		nodes = append(nodes, spacetest.Leaf(0, 1000+i))
		inner.Options = append(inner.Options, spacetest.Option(2, append([]int{i + 1}, make([]int, 13)...)...))
		alone.Options = append(alone.Options, spacetest.Option(10000+i, i+1))
	}
	return spacetest.Space(2, append(nodes, alone, inner)...)
}
