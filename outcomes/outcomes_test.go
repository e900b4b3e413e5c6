package outcomes_test

import (
	"slices"
	"testing"

	"synthesis/api"
	"synthesis/canon"
	"synthesis/eval"
	"synthesis/graph"
	"synthesis/outcomes"
	"synthesis/spacetest"
	"synthesis/statetest"
	"synthesis/value"
)

// asSpace returns the version space whose nodes are the states of an outcome graph.
func asSpace(list []outcomes.State) api.Space {
	var s api.Space
	for i, x := range list {
		s.Nodes = append(s.Nodes, x.Node)
		if x.IsRoot {
			s.Roots = append(s.Roots, i)
		}
	}
	return s
}

// checkGraph compares the outcome graph of a version space with its definition, and returns it.
func checkGraph(t *testing.T, l api.Language, s api.Space, tuples [][]api.Value) api.Space {
	t.Helper()
	list, e := outcomes.Of(l, s, tuples)
	got := asSpace(list)
	want := spacetest.RulesOf(l).Divided(s, func(x api.Term) string { return statetest.Key(l, x, tuples) })
	// The states may come in another order.
	ordered, f := canon.Deterministic(got)
	if e != api.OK || f != api.OK || len(got.Nodes) != len(want.Nodes) || !spacetest.Equal(ordered, want) {
		t.Fatalf("%s: %v has the outcome graph %v, %d, not %v", l.Name, s, got, e, want)
	}
	for i, terms := range spacetest.Derived(got) {
		if i > 0 && got.Nodes[i-1].Size > got.Nodes[i].Size {
			t.Fatalf("%s: the size %d is followed by %d", l.Name, got.Nodes[i-1].Size, got.Nodes[i].Size)
		}
		for _, x := range terms {
			if statetest.Key(l, x, tuples) != list[i].Key || eval.Key(list[i].Outcomes) != list[i].Key {
				t.Fatalf("%s: %v has the outcomes %v", l.Name, x, list[i].Outcomes)
			}
		}
	}
	return got
}

// Version spaces of several kinds, for all first parts of the tuples.
func TestOf(t *testing.T) {
	var d spacetest.Dice
	for _, x := range statetest.Families() {
		divided := 0
		for range 12 {
			s := spacetest.RulesOf(x.Language).Random(&d, d.Roll(14))
			before := spacetest.Copied(s)
			for n := range len(x.Tuples) + 1 {
				got := checkGraph(t, x.Language, s, x.Tuples[:n])
				if det, _ := canon.Deterministic(s); len(det.Nodes) < len(got.Nodes) {
					divided++
				}
			}
			if !spacetest.Equal(s, before) {
				t.Fatal("an argument is changed")
			}
		}
		if divided < 3 && len(x.Language.Rules) > 0 {
			t.Errorf("%s: %d are divided", x.Language.Name, divided)
		}
	}
}

// Nodes that have terms in common, nodes without terms, options whose choices do not come one after the other, and undefined outcomes.
func TestNodes(t *testing.T) {
	leaf, node, option := spacetest.Leaf, spacetest.Node, spacetest.Option
	l := statetest.Overflow()
	for _, nodes := range [][]api.Node{
		nil,
		{leaf(0, 0, 1), leaf(0, 0), leaf(0)},
		{leaf(0, 0, 1), leaf(1, 4, 5), node(0, 3, option(2, 0, 1)), node(0, 3), node(0, 4, option(3, 2), option(3, 3))},
		{leaf(0, 0, 1), leaf(1, 4), leaf(1, 5), node(0, 3, option(2, 0, 1), option(2, 0, 2)), node(0, 4, option(3, 3))},
		{leaf(0, 1), leaf(1, 5), node(0, 3, option(2, 0, 1)), node(0, 5, option(2, 2, 1)), node(1, 5, option(6, 1, 2))},
	} {
		for roots := range len(nodes) + 1 {
			for _, tuples := range [][][]api.Value{nil, statetest.Numbers(0), statetest.Numbers(1), statetest.Numbers(1000000), statetest.Numbers(0, 1, 1)} {
				checkGraph(t, l, spacetest.Space(roots, nodes...), tuples)
			}
		}
	}
}

// Exactly as many states and options as the limits permit, and one more. Nodes count that no root needs.
func TestLimits(t *testing.T) {
	for i, x := range statetest.Limits() {
		s := statetest.Whole(x.Language, x.Most)
		for _, roots := range [][]int{s.Roots, s.Roots[:1], nil} {
			want := api.OK
			if x.States > api.MaxNodes || x.Options > api.MaxOptions {
				want = api.ErrLimit
			}
			got, e := outcomes.Of(x.Language, api.Space{Nodes: s.Nodes, Roots: roots}, x.Tuples)
			options := 0
			for _, y := range got {
				options += len(y.Options)
			}
			if e != want || e == api.OK && (len(got) != x.States || options != x.Options) || e != api.OK && len(got) > 0 {
				t.Errorf("case %d: %d states, %d options, %d", i, len(got), options, e)
			}
			if e == api.OK && !graph.AreWellFormed(asSpace(got)) {
				t.Errorf("case %d is not well-formed", i)
			}
		}
	}
}

// Version spaces with exactly as many states in their subset graphs as the limits permit, and one more.
func TestSubsetLimits(t *testing.T) {
	for leftOut, want := range []api.Errno{api.ErrLimit, api.OK, api.OK} {
		for _, tuples := range [][][]api.Value{nil, {nil}} {
			got, e := outcomes.Of(statetest.ManyStates(2), statetest.Apart(2, leftOut), tuples)
			if e != want || e == api.OK && len(got) != api.MaxNodes+1-leftOut || e != api.OK && len(got) > 0 {
				t.Errorf("%d: %d states, %d", leftOut, len(got), e)
			}
		}
	}
}

// Version spaces with very many options of outcomes.
func TestFarBeyondLimits(t *testing.T) {
	one := [][]api.Value{nil}
	many := statetest.ManyStates(1)
	many.Rules = append(many.Rules, statetest.Op(3, "replace", 3, 3, 3))
	for most, want := range map[int]api.Errno{9: api.OK, 10: api.ErrLimit, 19: api.ErrLimit} {
		if got, e := outcomes.Of(many, statetest.Whole(many, most), one); e != want || (len(got) == 0) != (e != api.OK) {
			t.Errorf("up to %d: %d states, %d", most, len(got), e)
		}
	}
}

// The tuples come from the examples, and then from the domain. Examples require their outputs, and the domain what the formula accepts.
func TestRequired(t *testing.T) {
	in, out := api.Operand{Kind: api.OperandInput}, api.Operand{Kind: api.OperandOutput}
	p := api.Spec{
		Examples: []api.Example{{Inputs: []api.Value{value.OfInt(7)}, Output: value.OfInt(1)}},
		Formula:  api.Formula{Kind: api.FormLess, Left: in, Right: out},
		Domain:   api.Domain{Axes: [][]api.Value{{value.OfInt(3), value.OfInt(2)}}},
	}
	always := p
	always.Formula = api.Formula{Kind: api.FormTrue}
	of := func(numbers ...int64) []api.Outcome {
		var row []api.Outcome
		for _, n := range numbers {
			row = append(row, api.Outcome{Value: value.OfInt(n)})
		}
		return row
	}
	tuples, isSatisfied := outcomes.Required(p)
	if !slices.EqualFunc(tuples, statetest.Numbers(7, 3, 2), func(a, b []api.Value) bool { return slices.EqualFunc(a, b, value.Equal) }) {
		t.Error(tuples)
	}
	_, isAlways := outcomes.Required(always)
	for i, x := range []struct {
		row                     []api.Outcome
		satisfies, matchesAlone bool
	}{
		{of(1, 4, 3), true, true},
		{of(1, 3, 3), false, true},
		{of(1, 4, 2), false, true},
		{of(0, 4, 3), false, false},
		{append([]api.Outcome{{Errno: api.ErrUndefined}}, of(4, 3)...), false, false},
		{append(of(1, 4), api.Outcome{Errno: api.ErrUndefined}), false, false},
		// The formula does not fit a text, unless it fits everything.
		{append(of(1, 4), api.Outcome{Value: value.OfText("a")}), false, true},
		{append([]api.Outcome{{Value: value.OfText("a")}}, of(4, 3)...), false, false},
	} {
		if isSatisfied(x.row) != x.satisfies || isAlways(x.row) != x.matchesAlone {
			t.Errorf("case %d", i)
		}
	}
	tuples, isSatisfied = outcomes.Required(api.Spec{Domain: api.Domain{Axes: make([][]api.Value, 1)}})
	if len(tuples) > 0 || !isSatisfied(nil) {
		t.Error(tuples)
	}
}
