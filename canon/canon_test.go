package canon_test

import (
	"math"
	"slices"
	"testing"

	"synthesis/api"
	"synthesis/canon"
	"synthesis/graph"
	"synthesis/space"
	"synthesis/spacetest"
)

var rules = spacetest.Mixed()

// P26.1, P26.2, P26.4: small version spaces, by the definitions.
func TestForms(t *testing.T) {
	var d spacetest.Dice
	merged, greatest := 0, 0
	for range 1500 {
		s := rules.Random(&d, d.Roll(15))
		found, before := spacetest.Programs(s), spacetest.Copied(s)
		det, e := canon.Deterministic(s)
		if want := rules.Deterministic(s); e != api.OK || !spacetest.Equal(det, want) {
			t.Fatalf("Deterministic of %v is %v, %d, not %v", s, det, e, want)
		}
		least, e := canon.Minimal(s)
		if want := rules.Canonical(found); e != api.OK || !spacetest.Equal(least, want) {
			t.Fatalf("Minimal of %v is %v, %d, not %v", s, least, e, want)
		}
		checkForms(t, s, det, least)
		if !spacetest.Equal(s, before) {
			t.Fatal("an argument is changed")
		}
		if trimmed, _ := space.Trim(det); len(least.Nodes) < len(trimmed.Nodes) {
			merged++
		}
		greatest = max(greatest, len(least.Nodes))
	}
	if merged < 200 || greatest < 10 {
		t.Error(merged, greatest)
	}
}

// checkForms checks the consequences for a version space, its deterministic and its minimal form.
func checkForms(t *testing.T, s, det, least api.Space) {
	t.Helper()
	for _, x := range []api.Space{det, least} {
		if !graph.AreWellFormed(x) || !spacetest.IsUnambiguous(x) || !spacetest.IsSubset(spacetest.Programs(x), spacetest.Programs(s)) || !spacetest.IsSubset(spacetest.Programs(s), spacetest.Programs(x)) {
			t.Fatalf("%v has the form %v", s, x)
		}
		if again, e := canon.Minimal(x); e != api.OK || !spacetest.Equal(again, least) {
			t.Fatalf("Minimal of %v is %v, %d", x, again, e)
		}
	}
	if again, e := canon.Deterministic(det); e != api.OK || !spacetest.Equal(again, det) {
		t.Fatalf("Deterministic of %v is %v, %d", det, again, e)
	}
	if x, e := space.Trim(least); e != api.OK || !spacetest.Equal(x, least) || len(least.Nodes) > len(det.Nodes) {
		t.Fatalf("Minimal of %v is %v, and Trim of that %v, %d", s, least, x, e)
	}
}

// P26.3, P26.4: all pairs of version spaces with few programs, and pairs that have the same programs.
func TestComparisons(t *testing.T) {
	var d spacetest.Dice
	var list []api.Space
	for n := range 130 {
		s := rules.Random(&d, d.Roll(9))
		list = append(list, s)
		if n%5 == 0 {
			det, _ := canon.Deterministic(s)
			least, _ := canon.Minimal(s)
			list = append(list, det, least)
		}
		if n%5 == 1 && len(s.Roots) > 0 {
			list = append(list, api.Space{Nodes: s.Nodes, Roots: s.Roots[1:]})
		}
		if n%5 == 2 && len(s.Nodes) > 0 {
			list = append(list, api.Space{Nodes: s.Nodes[:len(s.Nodes)-1]})
		}
	}
	sets := make([]spacetest.Set, len(list))
	minimal := make([]api.Space, len(list))
	for i, s := range list {
		sets[i] = spacetest.Programs(s)
		minimal[i], _ = canon.Minimal(s)
	}
	same, less := 0, 0
	for i, a := range list {
		for k, b := range list {
			isSame, e := canon.Same(a, b)
			if want := spacetest.IsSubset(sets[i], sets[k]) && spacetest.IsSubset(sets[k], sets[i]); e != api.OK || isSame != want || isSame != spacetest.Equal(minimal[i], minimal[k]) {
				t.Fatalf("Same of %v and %v is %t, %d", a, b, isSame, e)
			}
			isLess, e := canon.Subset(a, b)
			if want := spacetest.IsSubset(sets[i], sets[k]); e != api.OK || isLess != want {
				t.Fatalf("Subset of %v and %v is %t, %d", a, b, isLess, e)
			}
			if isSame && len(sets[i]) > 3 && i != k {
				same++
			}
			if isLess && !isSame && len(sets[i]) > 1 {
				less++
			}
		}
	}
	if same < 20 || less < 50 {
		t.Error(same, less)
	}
}

// P26.1, P26.2: the examples, and greatest numbers.
func TestExamples(t *testing.T) {
	wide := spacetest.Option(math.MaxInt, make([]int, 23)...)
	for i, x := range []struct{ s, det, least api.Space }{
		{api.Space{}, api.Space{}, api.Space{}},
		{
			api.Space{Nodes: []api.Node{spacetest.Leaf(0, 0), spacetest.Leaf(0, 1)}, Roots: []int{0, 1}},
			api.Space{Nodes: []api.Node{spacetest.Leaf(0, 0), spacetest.Leaf(0, 1)}, Roots: []int{0, 1}},
			api.Space{Nodes: []api.Node{spacetest.Leaf(0, 0, 1)}, Roots: []int{0}},
		},
		{
			api.Space{Nodes: []api.Node{spacetest.Leaf(0, 0), spacetest.Leaf(0, 1)}, Roots: []int{0}},
			api.Space{Nodes: []api.Node{spacetest.Leaf(0, 0), spacetest.Leaf(0, 1)}, Roots: []int{0}},
			api.Space{Nodes: []api.Node{spacetest.Leaf(0, 0)}, Roots: []int{0}},
		},
		{
			api.Space{Nodes: []api.Node{spacetest.Leaf(0, 0, 1), spacetest.Leaf(0, 1, 2)}, Roots: []int{1}},
			api.Space{Nodes: []api.Node{spacetest.Leaf(0, 0), spacetest.Leaf(0, 1), spacetest.Leaf(0, 2)}, Roots: []int{1, 2}},
			api.Space{Nodes: []api.Node{spacetest.Leaf(0, 1, 2)}, Roots: []int{0}},
		},
		{
			api.Space{Nodes: []api.Node{spacetest.Leaf(0, 0)}},
			api.Space{Nodes: []api.Node{spacetest.Leaf(0, 0)}},
			api.Space{},
		},
		// The order of nodes: by size, then by symbol, then by the rules in preorder.
		{
			api.Space{Nodes: []api.Node{spacetest.Leaf(7, 1), spacetest.Node(3, 2, spacetest.Option(5, 0)), spacetest.Leaf(3, 9), spacetest.Leaf(3, 4), spacetest.Node(3, 2, spacetest.Option(2, 3)), spacetest.Leaf(math.MaxInt)}, Roots: []int{0, 1, 3, 5}},
			api.Space{Nodes: []api.Node{spacetest.Leaf(3, 4), spacetest.Leaf(3, 9), spacetest.Leaf(7, 1), spacetest.Node(3, 2, spacetest.Option(2, 0)), spacetest.Node(3, 2, spacetest.Option(5, 2))}, Roots: []int{0, 2, 4}},
			api.Space{Nodes: []api.Node{spacetest.Leaf(3, 4), spacetest.Leaf(7, 1), spacetest.Node(3, 2, spacetest.Option(5, 1))}, Roots: []int{0, 1, 2}},
		},
		// The place of an argument matters: rule 8 has the leaf 1 on the left only.
		{
			api.Space{Nodes: []api.Node{spacetest.Leaf(0, 0), spacetest.Leaf(0, 1), spacetest.Node(0, 3, spacetest.Option(8, 0, 0), spacetest.Option(8, 1, 0))}, Roots: []int{2}},
			api.Space{Nodes: []api.Node{spacetest.Leaf(0, 0), spacetest.Leaf(0, 1), spacetest.Node(0, 3, spacetest.Option(8, 0, 0), spacetest.Option(8, 1, 0))}, Roots: []int{2}},
			api.Space{Nodes: []api.Node{spacetest.Leaf(0, 0), spacetest.Leaf(0, 1), spacetest.Node(0, 3, spacetest.Option(8, 0, 0), spacetest.Option(8, 1, 0))}, Roots: []int{2}},
		},
		// A root is not in the class of what occurs in other places alone.
		{
			api.Space{Nodes: []api.Node{spacetest.Leaf(0, 0), spacetest.Leaf(0, 1), spacetest.Node(0, 2, spacetest.Option(8, 0), spacetest.Option(8, 1))}, Roots: []int{1, 2}},
			api.Space{Nodes: []api.Node{spacetest.Leaf(0, 0), spacetest.Leaf(0, 1), spacetest.Node(0, 2, spacetest.Option(8, 0), spacetest.Option(8, 1))}, Roots: []int{1, 2}},
			api.Space{Nodes: []api.Node{spacetest.Leaf(0, 0), spacetest.Leaf(0, 1), spacetest.Node(0, 2, spacetest.Option(8, 0), spacetest.Option(8, 1))}, Roots: []int{1, 2}},
		},
		// Terms of different symbols are in different classes, and those of different sizes.
		{
			api.Space{Nodes: []api.Node{spacetest.Leaf(1, 0), spacetest.Leaf(0, 1), spacetest.Node(1, 2, spacetest.Option(2, 0))}, Roots: []int{0, 1, 2}},
			api.Space{Nodes: []api.Node{spacetest.Leaf(0, 1), spacetest.Leaf(1, 0), spacetest.Node(1, 2, spacetest.Option(2, 1))}, Roots: []int{0, 1, 2}},
			api.Space{Nodes: []api.Node{spacetest.Leaf(0, 1), spacetest.Leaf(1, 0), spacetest.Node(1, 2, spacetest.Option(2, 1))}, Roots: []int{0, 1, 2}},
		},
		{
			api.Space{Nodes: []api.Node{spacetest.Leaf(math.MaxInt, 3), spacetest.Node(0, 24, wide)}, Roots: []int{1}},
			api.Space{Nodes: []api.Node{spacetest.Leaf(math.MaxInt, 3), spacetest.Node(0, 24, wide)}, Roots: []int{1}},
			api.Space{Nodes: []api.Node{spacetest.Leaf(math.MaxInt, 3), spacetest.Node(0, 24, wide)}, Roots: []int{1}},
		},
	} {
		if got, e := canon.Deterministic(x.s); e != api.OK || !spacetest.Equal(got, x.det) {
			t.Errorf("case %d: %v, %d, not %v", i, got, e, x.det)
		}
		if got, e := canon.Minimal(x.s); e != api.OK || !spacetest.Equal(got, x.least) {
			t.Errorf("case %d: %v, %d, not %v", i, got, e, x.least)
		}
	}
}

// P26.2, P26.3: version spaces of the same programs that are built in different ways.
func TestSamePrograms(t *testing.T) {
	l := api.Language{
		Name:    "n",
		Inputs:  []int{api.Int},
		Symbols: []api.Symbol{{Name: "S", Type: api.Int}, {Name: "A", Type: api.Int}},
		Rules: []api.Rule{
			{Kind: api.RuleInput},
			{Kind: api.RuleOp, Op: "add", Args: []int{0, 1}},
			{Symbol: 1, Kind: api.RuleInput},
			{Symbol: 1, Kind: api.RuleOp, Op: "neg", Args: []int{0}},
			{Kind: api.RuleOp, Op: "mul", Args: []int{0, 0}},
		},
	}
	for most := 1; most <= 7; most++ {
		all, e := space.All(l, 0, most)
		list, f := space.Terms(all)
		slices.Reverse(list)
		of, g := space.Of(l, list)
		if e != api.OK || f != api.OK || g != api.OK {
			t.Fatal(e, f, g)
		}
		x, e := canon.Minimal(all)
		y, f := canon.Minimal(of)
		if e != api.OK || f != api.OK || !spacetest.Equal(x, y) || space.Check(l, x) != api.OK {
			t.Fatalf("%v, %d, and %v, %d", x, e, y, f)
		}
		for _, a := range []api.Space{all, of, x} {
			for _, b := range []api.Space{all, of, x} {
				if is, e := canon.Same(a, b); e != api.OK || !is {
					t.Fatalf("%v and %v: %t, %d", a, b, is, e)
				}
			}
		}
		fewer, e := space.Of(l, list[1:])
		is, f := canon.Subset(fewer, all)
		isToo, g := canon.Subset(all, fewer)
		if isSame, h := canon.Same(all, fewer); e != api.OK || f != api.OK || g != api.OK || h != api.OK || !is || isToo || isSame {
			t.Fatal(most, is, isToo, isSame)
		}
	}
}
