package canon_test

import (
	"slices"
	"testing"

	"synthesis/api"
	"synthesis/canon"
	"synthesis/spacetest"
)

// checkAlone checks that Deterministic and Minimal return this error, and nothing else with an error.
func checkAlone(t *testing.T, s api.Space, want api.Errno) {
	t.Helper()
	if x, e := canon.Deterministic(s); e != want || e != api.OK && !spacetest.IsZero(x) {
		t.Errorf("Deterministic is %d, not %d, with %d nodes", e, want, len(x.Nodes))
	}
	if x, e := canon.Minimal(s); e != want || e != api.OK && !spacetest.IsZero(x) {
		t.Errorf("Minimal is %d, not %d, with %d nodes", e, want, len(x.Nodes))
	}
}

// checkBoth checks that Same and Subset return this error in both orders, and false with an error.
func checkBoth(t *testing.T, a, b api.Space, want api.Errno) {
	t.Helper()
	for _, f := range []func(a, b api.Space) (bool, api.Errno){canon.Same, canon.Subset} {
		for _, x := range [][]api.Space{{a, b}, {b, a}} {
			if is, e := f(x[0], x[1]); e != want || e != api.OK && is {
				t.Errorf("%t, %d, not %d", is, e, want)
			}
		}
	}
}

// P26.1 to P26.3: version spaces that are not well-formed, also beside one whose subset graph is too large.
func TestMalformed(t *testing.T) {
	good := api.Space{Nodes: []api.Node{spacetest.Leaf(0, 0)}, Roots: []int{0}}
	large := spacetest.ManyOptions(9)
	for _, s := range spacetest.Malformed() {
		checkAlone(t, s, api.ErrForm)
		checkBoth(t, s, good, api.ErrForm)
		checkBoth(t, s, s, api.ErrForm)
		checkBoth(t, s, large, api.ErrForm)
	}
}

// P26.3: version spaces that do not fit together.
func TestFit(t *testing.T) {
	a := api.Space{Nodes: []api.Node{spacetest.Leaf(0, 0, 1), spacetest.Leaf(1, 3), spacetest.Node(0, 3, spacetest.Option(5, 0, 1))}, Roots: []int{2}}
	for i, x := range []struct {
		nodes []api.Node
		want  api.Errno
	}{
		{[]api.Node{spacetest.Leaf(0, 0), spacetest.Leaf(1, 3), spacetest.Node(0, 3, spacetest.Option(5, 0, 1))}, api.OK},
		{[]api.Node{spacetest.Leaf(0, 2, 7), spacetest.Leaf(1, 4)}, api.OK},
		{[]api.Node{spacetest.Leaf(1, 0)}, api.ErrForm},
		{[]api.Node{spacetest.Leaf(0, 3)}, api.ErrForm},
		{[]api.Node{spacetest.Leaf(0, 5)}, api.ErrForm},
		{[]api.Node{spacetest.Leaf(0), spacetest.Node(0, 2, spacetest.Option(5, 0))}, api.ErrForm},
		{[]api.Node{spacetest.Leaf(0), spacetest.Leaf(1), spacetest.Node(0, 3, spacetest.Option(5, 0, 1))}, api.OK},
		{[]api.Node{spacetest.Leaf(0), spacetest.Leaf(1), spacetest.Node(0, 3, spacetest.Option(5, 1, 0))}, api.ErrForm},
		{[]api.Node{spacetest.Leaf(0), spacetest.Leaf(1), spacetest.Node(0, 3, spacetest.Option(5, 0, 0))}, api.ErrForm},
		{[]api.Node{spacetest.Leaf(0), spacetest.Leaf(1), spacetest.Node(1, 3, spacetest.Option(5, 0, 1))}, api.ErrForm},
		{[]api.Node{spacetest.Leaf(0), spacetest.Leaf(1), spacetest.Node(0, 4, spacetest.Option(5, 0, 1, 1))}, api.ErrForm},
	} {
		if checkBoth(t, a, api.Space{Nodes: x.nodes}, x.want); t.Failed() {
			t.Fatalf("case %d", i)
		}
	}
}

// P26.1 to P26.3: as many states and options as the limits permit, and one more.
func TestLimits(t *testing.T) {
	full := spacetest.ManyStates(api.MaxNodes - 1)
	full.Nodes = append(full.Nodes, spacetest.Leaf(0, 0))
	over := api.Space{Nodes: append(slices.Clone(full.Nodes), spacetest.Leaf(1, 9999)), Roots: full.Roots}
	for i, x := range []struct {
		s       api.Space
		states  int
		classes int
	}{
		{full, api.MaxNodes, 1},
		{over, 0, 0},
		{spacetest.ManyOptions(8), 183, 4},
		{spacetest.ManyOptions(9), 0, 0},
	} {
		want := api.OK
		if x.states == 0 {
			want = api.ErrLimit
		}
		det, _ := canon.Deterministic(x.s)
		least, _ := canon.Minimal(x.s)
		if len(det.Nodes) != x.states || len(least.Nodes) != x.classes {
			t.Errorf("case %d: %d states, %d classes", i, len(det.Nodes), len(least.Nodes))
		}
		if checkAlone(t, x.s, want); t.Failed() {
			t.Fatalf("case %d", i)
		}
		checkBoth(t, x.s, api.Space{}, want)
		checkBoth(t, x.s, x.s, want)
	}
	// Each of them is within the limits, but not both together.
	few := api.Space{Nodes: []api.Node{spacetest.Leaf(0, 9999)}}
	checkAlone(t, few, api.OK)
	checkBoth(t, full, few, api.ErrLimit)
	checkBoth(t, spacetest.ManyOptions(8), few, api.ErrLimit)
	checkBoth(t, spacetest.ManyOptions(7), few, api.OK)
	checkBoth(t, spacetest.ManyOptions(8), api.Space{Nodes: []api.Node{spacetest.Leaf(0, 1)}}, api.OK)
	// Programs that differ at once, but have too large a graph together.
	checkBoth(t, spacetest.ManyOptions(8), api.Space{Nodes: []api.Node{spacetest.Leaf(0, 9999), spacetest.Leaf(3, 9000)}, Roots: []int{0, 1}}, api.ErrLimit)
}

// P26.1 to P26.4: very many ways to few programs, and very many programs of few ways.
func TestManyWays(t *testing.T) {
	const width = 36
	s := api.Space{Nodes: slices.Repeat([]api.Node{spacetest.Leaf(0, 0)}, width)}
	for size := 2; size <= api.MaxSize; size++ {
		n := spacetest.Node(0, size)
		for i := range width {
			n.Options = append(n.Options, spacetest.Option(1, (size-2)*width+i))
		}
		s.Nodes = append(s.Nodes, slices.Repeat([]api.Node{n}, width)...)
	}
	s.Roots = []int{len(s.Nodes) - 1}
	want := api.Space{Nodes: []api.Node{spacetest.Leaf(0, 0)}, Roots: []int{api.MaxSize - 1}}
	for size := 2; size <= api.MaxSize; size++ {
		want.Nodes = append(want.Nodes, spacetest.Node(0, size, spacetest.Option(1, size-2)))
	}
	least, e := canon.Minimal(s)
	if e != api.OK || !spacetest.Equal(least, want) {
		t.Error(least, e)
	}
	det, e := canon.Deterministic(s)
	if e != api.OK || !spacetest.Equal(det, want) {
		t.Error(det, e)
	}
	// 100 to the power 12 programs, the arguments of which are in one class.
	many := api.Space{Nodes: []api.Node{spacetest.Leaf(0, spacetest.Numbers(1, 100)...), spacetest.Node(0, 13, spacetest.Option(0, make([]int, 12)...))}, Roots: []int{1}}
	split := api.Space{Nodes: []api.Node{spacetest.Leaf(0, spacetest.Numbers(1, 50)...), spacetest.Leaf(0, spacetest.Numbers(51, 100)...)}, Roots: []int{2}}
	n := spacetest.Node(0, 13)
	for bits := range 1 << 12 {
		o := spacetest.Option(0)
		for k := range 12 {
			o.Args = append(o.Args, bits>>(11-k)&1)
		}
		n.Options = append(n.Options, o)
	}
	split.Nodes = append(split.Nodes, n)
	if x, e := canon.Minimal(split); e != api.OK || !spacetest.Equal(x, many) {
		t.Error(x, e)
	}
	checkBoth(t, many, split, api.OK)
	if is, e := canon.Same(many, split); !is || e != api.OK {
		t.Error(is, e)
	}
	split.Nodes[2].Options = split.Nodes[2].Options[1:]
	if is, e := canon.Same(many, split); is || e != api.OK {
		t.Error(is, e)
	}
	if is, e := canon.Subset(split, many); !is || e != api.OK {
		t.Error(is, e)
	}
	if is, e := canon.Subset(many, split); is || e != api.OK {
		t.Error(is, e)
	}
}
