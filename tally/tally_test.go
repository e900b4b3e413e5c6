package tally_test

import (
	"math"
	"slices"
	"testing"

	"synthesis/api"
	"synthesis/canon"
	"synthesis/counting"
	"synthesis/notation"
	"synthesis/space"
	"synthesis/spacetest"
	"synthesis/tally"
	"synthesis/term"
)

var rules = spacetest.Mixed()

// P27.1 to P27.5: small version spaces, by the definitions.
func TestNumbers(t *testing.T) {
	var d spacetest.Dice
	unambiguous, ambiguous, greatest, differing := 0, 0, 0, 0
	for range 800 {
		s := rules.Random(&d, d.Roll(15))
		det, _ := canon.Deterministic(s)
		least, _ := canon.Minimal(s)
		list := spacetest.Programs(s).Sorted()
		for i, x := range []api.Space{s, det, least} {
			is, e := tally.Unambiguous(x)
			if want := spacetest.IsUnambiguous(x); e != api.OK || is != want || i > 0 && !is {
				t.Fatalf("Unambiguous of %v is %t, %d", x, is, e)
			}
			checkNumbers(t, x, list)
		}
		if spacetest.IsUnambiguous(s) {
			unambiguous++
			if n := derivations(s); n != len(list) {
				t.Fatalf("%v has %d derivations, but %d programs", s, n, len(list))
			}
		} else {
			ambiguous++
		}
		greatest = max(greatest, len(list))
		if derivations(s) != len(list) {
			differing++
		}
	}
	if unambiguous < 100 || ambiguous < 250 || greatest < 60 || differing < 150 {
		t.Error(unambiguous, ambiguous, greatest, differing)
	}
}

// derivations returns the number of derivations of the roots.
func derivations(s api.Space) int {
	n := 0
	for i, list := range spacetest.Derived(s) {
		if slices.Contains(s.Roots, i) {
			n += len(list)
		}
	}
	return n
}

// checkNumbers checks all functions but Unambiguous for a version space whose programs are those of a list, in order.
func checkNumbers(t *testing.T, s api.Space, list []api.Term) {
	t.Helper()
	if n, e := tally.Count(s); e != api.OK || n != int64(len(list)) {
		t.Fatalf("Count of %v is %d, %d", s, n, e)
	}
	var want []int64
	for _, x := range list {
		for len(want) < term.Size(x) {
			want = append(want, 0)
		}
		want[term.Size(x)-1]++
	}
	if sizes, e := tally.Sizes(s); e != api.OK || !slices.Equal(sizes, want) {
		t.Fatalf("Sizes of %v is %v, %d, not %v", s, sizes, e, want)
	}
	for i, want := range list {
		x, e := tally.Nth(s, int64(i))
		if e != api.OK || spacetest.Write(x) != spacetest.Write(want) {
			t.Fatalf("Nth of %v and %d is %v, %d, not %v", s, i, x, e, want)
		}
		if n, e := tally.Index(s, want); e != api.OK || n != int64(i) {
			t.Fatalf("Index of %v and %v is %d, %d, not %d", s, want, n, e, i)
		}
	}
	for _, n := range []int64{-1, int64(len(list)), int64(len(list)) + 1, math.MaxInt64, math.MinInt64} {
		if x, e := tally.Nth(s, n); e != api.ErrRange || x.Rule != 0 || len(x.Args) > 0 {
			t.Fatalf("Nth of %v and %d is %v, %d", s, n, x, e)
		}
	}
}

// P27.4: terms that are no programs: terms of other nodes, and programs that were changed.
func TestNone(t *testing.T) {
	var d spacetest.Dice
	parts, changed := 0, 0
	for range 100 {
		s := rules.Random(&d, 7)
		programs := spacetest.Programs(s)
		checkNone := func(x api.Term) bool {
			if programs.Has(spacetest.Write(x)) {
				return false
			}
			if n, e := tally.Index(s, x); e != api.ErrNone || n != 0 {
				t.Fatalf("Index of %v and %v is %d, %d", s, x, n, e)
			}
			return true
		}
		for _, list := range spacetest.Derived(s) {
			for _, x := range list {
				if checkNone(x) {
					parts++
				}
				for _, y := range variants(x) {
					if checkNone(y) {
						changed++
					}
				}
			}
		}
	}
	if parts < 200 || changed < 1000 {
		t.Error(parts, changed)
	}
}

// variants returns terms that differ from a term in one place.
func variants(x api.Term) []api.Term {
	list := []api.Term{
		{Rule: -1, Args: x.Args},
		{Rule: x.Rule + 1, Args: x.Args},
		{Rule: math.MaxInt, Args: x.Args},
		{Rule: x.Rule, Args: append(slices.Clone(x.Args), api.Term{})},
	}
	if len(x.Args) > 0 {
		list = append(list, api.Term{Rule: x.Rule, Args: x.Args[1:]}, api.Term{Rule: x.Rule})
	}
	for i, arg := range x.Args {
		for _, other := range variants(arg) {
			args := slices.Clone(x.Args)
			args[i] = other
			list = append(list, api.Term{Rule: x.Rule, Args: args})
		}
	}
	return list
}

// P27.4: terms whose rules in preorder are those of a program, and terms that are too large or contain themselves.
func TestOddTerms(t *testing.T) {
	two := spacetest.Node(0, 3, spacetest.Option(1, 0, 0))
	s := spacetest.Space(1, spacetest.Leaf(0, 0), two, spacetest.Node(0, 5, spacetest.Option(1, 0, 1)))
	leaf := api.Term{}
	deep := leaf
	for range 40 {
		deep = api.Term{Rule: 1, Args: []api.Term{leaf, deep}}
	}
	endless := api.Term{Rule: 1, Args: make([]api.Term, 2)}
	endless.Args[1] = endless
	for i, x := range []struct {
		t    api.Term
		want api.Errno
	}{
		{api.Term{Rule: 1, Args: []api.Term{leaf, {Rule: 1, Args: []api.Term{leaf, leaf}}}}, api.OK},
		{api.Term{Rule: 1, Args: []api.Term{leaf, {Rule: 1}, leaf, leaf}}, api.ErrNone},
		{api.Term{Rule: 1, Args: []api.Term{leaf, {Rule: 1, Args: []api.Term{leaf}}, leaf}}, api.ErrNone},
		{api.Term{Rule: 1, Args: []api.Term{{Rule: 1, Args: []api.Term{leaf, leaf}}, leaf}}, api.ErrNone},
		{api.Term{Rule: 1, Args: []api.Term{{Args: []api.Term{{Rule: 1}}}, leaf, leaf}}, api.ErrNone},
		{deep, api.ErrNone},
		{endless, api.ErrNone},
	} {
		if n, e := tally.Index(s, x.t); e != x.want || n != 0 {
			t.Errorf("case %d: %d, %d", i, n, e)
		}
	}
}

// P27.1 to P27.4: the examples, and the empty set.
func TestExamples(t *testing.T) {
	l, _, _ := notation.ParseLanguage("language sums\ninputs int\nsymbol S int\nrule S = in0\nrule S = add(S, S)\n")
	s, _ := space.All(l, 0, 5)
	two, _, _ := notation.Parse(l, 0, "add(in0, in0)")
	n, e := tally.Count(s)
	sizes, f := tally.Sizes(s)
	x, g := tally.Nth(s, 1)
	number, h := tally.Index(s, two)
	if n != 4 || !slices.Equal(sizes, []int64{1, 0, 1, 0, 2}) || term.Compare(x, two) != 0 || number != 1 {
		t.Error(n, sizes, x, number)
	}
	if e != api.OK || f != api.OK || g != api.OK || h != api.OK {
		t.Error(e, f, g, h)
	}
	twice := spacetest.Space(2, spacetest.Leaf(0, 0), spacetest.Leaf(0, 0))
	if is, e := tally.Unambiguous(twice); is || e != api.OK {
		t.Error(is, e)
	}
	if n, e := tally.Count(twice); n != 1 || e != api.OK {
		t.Error(n, e)
	}
	for _, empty := range []api.Space{{}, spacetest.Space(0, spacetest.Leaf(0, 0)), spacetest.Space(2, spacetest.Leaf(0), spacetest.Node(0, 2, spacetest.Option(1, 0)))} {
		checkNumbers(t, empty, nil)
		if is, e := tally.Unambiguous(empty); !is || e != api.OK {
			t.Error(is, e)
		}
	}
}

// P27.1: what makes a version space ambiguous, also in nodes that the roots do not need.
func TestAmbiguity(t *testing.T) {
	leaf, node, option := spacetest.Leaf, spacetest.Node, spacetest.Option
	for i, x := range []struct {
		s    api.Space
		want bool
	}{
		{spacetest.Space(1, leaf(0, 0, 1), leaf(0, 2)), true},
		{spacetest.Space(1, leaf(0, 0, 1), leaf(0, 1, 2), leaf(0, 3)), false},
		{spacetest.Space(0, leaf(0, 0, 1), leaf(0, 1, 2)), false},
		{spacetest.Space(1, leaf(0, 0), node(0, 3, option(1, 0, 0))), true},
		{spacetest.Space(1, leaf(0, 0), node(0, 3, option(1, 0, 0)), node(0, 3, option(1, 0, 0))), false},
		// Two nodes have an option that has no term in common, and one that has no term at all.
		{spacetest.Space(2, leaf(0, 0), leaf(0, 5), leaf(0), node(0, 2, option(1, 0), option(1, 2)), node(0, 2, option(1, 1), option(1, 2))), true},
		// One node has a term by two options.
		{spacetest.Space(1, leaf(0, 0, 1), leaf(0, 1, 2), node(0, 2, option(3, 0), option(3, 1))), false},
	} {
		if got, e := tally.Unambiguous(x.s); got != x.want || e != api.OK {
			t.Errorf("case %d: %t, %d", i, got, e)
		}
	}
}

// P27.2 to P27.5: all programs of a language up to a size, of which there are very many, agree with counting.
func TestLanguage(t *testing.T) {
	l, _, e := notation.ParseLanguage("language mixed\ninputs int\nsymbol S int\nsymbol B bool\nrule S = in0\nrule S = ifint(B, S, S)\nrule B = less(S, S)\nrule S = 1\nrule S = add(S, S)\nrule S = neg(S)\n")
	if e != api.OK {
		t.Fatal(e)
	}
	for _, most := range []int{4, 12, 20} {
		s, e := space.All(l, 0, most)
		all, f := counting.Total(l, 0, most)
		n, g := tally.Count(s)
		sizes, h := tally.Sizes(s)
		if e != api.OK || f != api.OK || g != api.OK || h != api.OK || n != all || len(sizes) != most {
			t.Fatal(most, e, f, g, h, n, all, sizes)
		}
		var before int64
		for i, count := range sizes {
			if want, _ := counting.Count(l, 0, i+1); count != want {
				t.Fatal(most, i, count, want)
			}
			for _, at := range []int64{0, 1, count / 7, count / 2, count/3*2 + 1, count - 1} {
				if count == 0 || at >= count {
					continue
				}
				x, e := tally.Nth(s, before+at)
				want, _ := counting.Term(l, 0, i+1, at)
				if e != api.OK || term.Compare(x, want) != 0 {
					t.Fatalf("Nth of %d is %v, %d, not %v", before+at, x, e, want)
				}
				if n, e := tally.Index(s, x); e != api.OK || n != before+at {
					t.Fatalf("Index is %d, %d, not %d", n, e, before+at)
				}
			}
			before += count
		}
	}
}
