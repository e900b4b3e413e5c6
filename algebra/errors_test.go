package algebra_test

import (
	"math"
	"slices"
	"testing"

	"synthesis/algebra"
	"synthesis/api"
	"synthesis/spacetest"
)

// checkBoth checks that the functions of two version spaces return this error in both orders, and nothing else with an error.
func checkBoth(t *testing.T, a, b api.Space, want api.Errno) {
	t.Helper()
	for i, f := range []func(a, b api.Space) (api.Space, api.Errno){algebra.Union, algebra.Intersect, algebra.Minus} {
		for _, x := range [][]api.Space{{a, b}, {b, a}} {
			if s, e := f(x[0], x[1]); e != want || e != api.OK && !spacetest.IsZero(s) {
				t.Errorf("function %d is %d with %d nodes, not %d", i, e, len(s.Nodes), want)
			}
		}
	}
}

// checkAlone checks that Limit and Using return this error, and nothing else with an error.
func checkAlone(t *testing.T, s api.Space, want api.Errno) {
	t.Helper()
	if x, e := algebra.Limit(s, api.MaxSize); e != want || e != api.OK && !spacetest.IsZero(x) {
		t.Errorf("Limit is %d with %d nodes, not %d", e, len(x.Nodes), want)
	}
	for _, used := range []bool{false, true} {
		for _, rule := range []int{math.MinInt, -1, 0, 1, 300} {
			if x, e := algebra.Using(s, rule, used); e != want || e != api.OK && !spacetest.IsZero(x) {
				t.Errorf("Using is %d with %d nodes, not %d", e, len(x.Nodes), want)
			}
		}
	}
}

// P28.1 to P28.3: version spaces that are not well-formed, also beside one whose subset graph is too large, and with a wrong number.
func TestMalformed(t *testing.T) {
	good := spacetest.Space(1, spacetest.Leaf(0, 0))
	large := spacetest.ManyOptions(9)
	for i, s := range spacetest.Malformed() {
		checkAlone(t, s, api.ErrForm)
		for _, most := range []int{0, 25, -1} {
			if x, e := algebra.Limit(s, most); e != api.ErrForm || !spacetest.IsZero(x) {
				t.Errorf("Limit is %v, %d", x, e)
			}
		}
		checkBoth(t, s, good, api.ErrForm)
		checkBoth(t, s, s, api.ErrForm)
		checkBoth(t, s, large, api.ErrForm)
		if t.Failed() {
			t.Fatalf("case %d", i)
		}
	}
}

// P28.2: bounds on sizes, also of a version space whose subset graph is too large.
func TestRange(t *testing.T) {
	for _, s := range []api.Space{{}, spacetest.Space(1, spacetest.Leaf(0, 0)), spacetest.ManyOptions(9)} {
		for _, most := range []int{0, -1, api.MaxSize + 1, math.MaxInt, math.MinInt} {
			if x, e := algebra.Limit(s, most); e != api.ErrRange || !spacetest.IsZero(x) {
				t.Errorf("Limit to %d is %v, %d", most, x, e)
			}
		}
	}
}

// P28.1: version spaces that do not fit together, also where no program has these options.
func TestFit(t *testing.T) {
	leaf, node, option := spacetest.Leaf, spacetest.Node, spacetest.Option
	a := api.Space{Nodes: []api.Node{leaf(0, 0, 1), leaf(1, 3), node(0, 3, option(5, 0, 1))}, Roots: []int{2}}
	for i, x := range []struct {
		nodes []api.Node
		want  api.Errno
	}{
		{[]api.Node{leaf(0, 0), leaf(1, 3), node(0, 3, option(5, 0, 1))}, api.OK},
		{[]api.Node{leaf(0, 2, 7), leaf(1, 4)}, api.OK},
		{[]api.Node{leaf(1, 0)}, api.ErrForm},
		{[]api.Node{leaf(0, 3)}, api.ErrForm},
		{[]api.Node{leaf(0), node(0, 2, option(5, 0))}, api.ErrForm},
		{[]api.Node{leaf(0), leaf(1), node(0, 3, option(5, 0, 1))}, api.OK},
		{[]api.Node{leaf(0), leaf(1), node(0, 3, option(5, 1, 0))}, api.ErrForm},
		{[]api.Node{leaf(0), leaf(1), node(0, 3, option(5, 0, 0))}, api.ErrForm},
		{[]api.Node{leaf(0), leaf(1), node(1, 3, option(5, 0, 1))}, api.ErrForm},
		{[]api.Node{leaf(0), leaf(1), node(0, 4, option(5, 0, 1, 1))}, api.ErrForm},
	} {
		if checkBoth(t, a, api.Space{Nodes: x.nodes}, x.want); t.Failed() {
			t.Fatalf("case %d", i)
		}
	}
}

// P28.1 to P28.3: subset graphs with as many states and options as the limits permit, and one more.
func TestLimits(t *testing.T) {
	full := spacetest.ManyStates(api.MaxNodes - 1)
	full.Nodes = append(full.Nodes, spacetest.Leaf(0, 0))
	over := api.Space{Nodes: append(slices.Clone(full.Nodes), spacetest.Leaf(1, 9999)), Roots: full.Roots}
	few := api.Space{Nodes: []api.Node{spacetest.Leaf(0, 9999)}}
	checkAlone(t, full, api.OK)
	checkAlone(t, over, api.ErrLimit)
	checkAlone(t, spacetest.ManyOptions(8), api.OK)
	checkAlone(t, spacetest.ManyOptions(9), api.ErrLimit)
	checkBoth(t, full, full, api.OK)
	checkBoth(t, over, api.Space{}, api.ErrLimit)
	checkBoth(t, spacetest.ManyOptions(9), api.Space{}, api.ErrLimit)
	// Each of them is within the limits, but not both together.
	checkBoth(t, full, few, api.ErrLimit)
	checkBoth(t, spacetest.ManyOptions(8), few, api.ErrLimit)
	checkBoth(t, spacetest.ManyOptions(7), few, api.OK)
	checkBoth(t, spacetest.ManyOptions(8), api.Space{Nodes: []api.Node{spacetest.Leaf(0, 1)}}, api.OK)
}
