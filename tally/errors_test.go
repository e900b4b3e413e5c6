package tally_test

import (
	"math"
	"slices"
	"testing"

	"synthesis/api"
	"synthesis/spacetest"
	"synthesis/tally"
	"synthesis/term"
)

// checkError checks that Unambiguous returns the first of two errors, and the other functions the second one, whatever else is wrong.
func checkError(t *testing.T, s api.Space, unambiguous, others api.Errno) {
	t.Helper()
	if is, e := tally.Unambiguous(s); e != unambiguous || e != api.OK && is {
		t.Errorf("Unambiguous is %t, %d", is, e)
	}
	if n, e := tally.Count(s); e != others || e != api.OK && n != 0 {
		t.Errorf("Count is %d, %d", n, e)
	}
	if list, e := tally.Sizes(s); e != others || e != api.OK && len(list) > 0 {
		t.Errorf("Sizes is %v, %d", list, e)
	}
	for _, n := range []int64{0, -1, math.MaxInt64} {
		want := others
		if n != 0 && others == api.OK {
			want = api.ErrRange
		}
		if x, e := tally.Nth(s, n); e != want || e != api.OK && (x.Rule != 0 || len(x.Args) > 0) {
			t.Errorf("Nth of %d is %v, %d", n, x, e)
		}
	}
	want := others
	if others == api.OK {
		want = api.ErrNone
	}
	if n, e := tally.Index(s, api.Term{Rule: -1}); e != want || n != 0 {
		t.Errorf("Index is %d, %d", n, e)
	}
}

// P27.1 to P27.4: version spaces that are not well-formed.
func TestMalformed(t *testing.T) {
	for i, s := range spacetest.Malformed() {
		if checkError(t, s, api.ErrForm, api.ErrForm); t.Failed() {
			t.Fatalf("case %d", i)
		}
	}
}

// P27.1 to P27.4: as many states and options as the limits permit, and one more.
func TestLimits(t *testing.T) {
	full := spacetest.ManyStates(api.MaxNodes - 1)
	full.Nodes = append(full.Nodes, spacetest.Leaf(0, 0))
	over := api.Space{Nodes: append(slices.Clone(full.Nodes), spacetest.Leaf(1, 9999)), Roots: full.Roots}
	checkError(t, full, api.OK, api.OK)
	checkError(t, over, api.ErrLimit, api.ErrLimit)
	checkError(t, spacetest.ManyOptions(8), api.OK, api.OK)
	checkError(t, spacetest.ManyOptions(9), api.ErrLimit, api.ErrLimit)
	// Too many states, and too many programs.
	over.Nodes = append(over.Nodes, power(10, 23).Nodes...)
	last := len(over.Nodes) - 1
	over.Nodes[last].Options = []api.Option{{Rule: 5000, Args: slices.Repeat([]int{last - 1}, 23)}}
	over.Roots = []int{last}
	over.Nodes[last-1] = spacetest.Leaf(0, spacetest.Numbers(6000, 6009)...)
	checkError(t, over, api.ErrLimit, api.ErrLimit)
	if n, e := tally.Count(full); n != api.MaxNodes-1 || e != api.OK {
		t.Error(n, e)
	}
}

// power returns a version space with a program for each choice of some arguments among some leaves.
func power(leaves, args int) api.Space {
	n := spacetest.Node(0, args+1, spacetest.Option(0, make([]int, args)...))
	return spacetest.Space(1, spacetest.Leaf(0, spacetest.Numbers(1, leaves)...), n)
}

// and returns s with further programs of one rule, as another root.
func and(s api.Space, further int) api.Space {
	s.Nodes = append(slices.Clone(s.Nodes), spacetest.Leaf(0, spacetest.Numbers(10000, 9999+further)...))
	s.Roots = append(slices.Clone(s.Roots), len(s.Nodes)-1)
	return s
}

// factors returns a version space with one program for each choice of an argument among so many leaves, for each argument.
func factors(counts ...int) api.Space {
	var s api.Space
	o := spacetest.Option(0)
	first := 1
	for i, count := range counts {
		o.Args = append(o.Args, i)
		s.Nodes = append(s.Nodes, spacetest.Leaf(i+1, spacetest.Numbers(first, first+count-1)...))
		first += count
	}
	s.Nodes = append(s.Nodes, spacetest.Node(0, len(counts)+1, o))
	s.Roots = []int{len(counts)}
	return s
}

// P27.2 to P27.4: as many programs as MaxCount, and one more.
func TestMany(t *testing.T) {
	// The product is 2^60 - 1.
	primes := []int{1321, 331, 3, 5, 3, 7, 5, 11, 13, 151, 61, 41, 31}
	manyOptions := power(8, 20)
	for rule := 1; rule < 64; rule++ {
		o := spacetest.Option(10000+rule, make([]int, 20)...)
		manyOptions.Nodes[1].Options = append(manyOptions.Nodes[1].Options, o)
	}
	chain := power(16, 15)
	chain.Nodes = append(chain.Nodes, spacetest.Node(0, 17, spacetest.Option(10001, 1)), spacetest.Node(0, 18, spacetest.Option(10001, 2), spacetest.Option(10002, 2)))
	chain.Roots = []int{2}
	for i, x := range []struct {
		s     api.Space
		count int64
	}{
		{power(8, 20), api.MaxCount},
		{and(power(8, 20), 1), 0},
		{power(4, 23), 1 << 46},
		{power(16, 15), api.MaxCount},
		{power(16, 16), 0},
		{power(16, 23), 0},
		{power(1000, 23), 0},
		{factors(primes...), api.MaxCount - 1},
		{and(factors(primes...), 1), api.MaxCount},
		{and(factors(primes...), 2), 0},
		{and(power(2, 1), 3), 5},
		{manyOptions, 0},
		{chain, api.MaxCount},
		{api.Space{Nodes: chain.Nodes, Roots: []int{3}}, 0},
		{api.Space{Nodes: chain.Nodes, Roots: []int{1, 2}}, 0},
		{api.Space{Nodes: chain.Nodes, Roots: []int{1, 2, 3}}, 0},
		// Very many terms that no program has.
		{api.Space{Nodes: chain.Nodes, Roots: []int{0}}, 16},
		{api.Space{Nodes: manyOptions.Nodes, Roots: []int{0}}, 8},
	} {
		want := api.OK
		if x.count == 0 {
			want = api.ErrMany
		}
		if checkError(t, x.s, api.OK, want); t.Failed() {
			t.Fatalf("case %d", i)
		}
		if n, e := tally.Count(x.s); n != x.count || e != want {
			t.Errorf("case %d: %d, %d", i, n, e)
		}
		if x.count > 0 {
			checkLast(t, x.s, x.count)
		}
	}
}

// checkLast checks the numbers of some programs of a version space, to the last one.
func checkLast(t *testing.T, s api.Space, count int64) {
	t.Helper()
	places := []int64{0, 1, count / 3, count/2 + 1, count - 2, count - 1}
	slices.Sort(places)
	var before api.Term
	for i, at := range slices.Compact(places) {
		x, e := tally.Nth(s, at)
		n, f := tally.Index(s, x)
		if e != api.OK || f != api.OK || n != at || i > 0 && term.Compare(before, x) >= 0 {
			t.Fatalf("number %d of %d is %v, %d, which has the number %d, %d", at, count, x, e, n, f)
		}
		before = x
	}
	if x, e := tally.Nth(s, count); e != api.ErrRange {
		t.Errorf("number %d is %v, %d", count, x, e)
	}
}
