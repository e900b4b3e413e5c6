package space_test

import (
	"math"
	"slices"
	"testing"

	"synthesis/api"
	"synthesis/space"
	"synthesis/spacetest"
)

// P25.2, P25.3, P25.6, P25.7: small version spaces, by the definitions.
func TestSets(t *testing.T) {
	var d spacetest.Dice
	l := choices()
	var others []api.Term
	for symbol := range l.Symbols {
		others = append(others, upTo(l, symbol, 3)...)
	}
	empty, full := 0, 0
	for range 1200 {
		s := spacetest.RulesOf(l).Random(&d, d.Roll(14))
		want := programs(s)
		before := spacetest.Copied(s)
		list, e := space.Terms(s)
		if e != api.OK || !equalTerms(list, want) {
			t.Fatalf("Terms of %v is %v, %d, not %v", s, list, e, want)
		}
		if got := space.Empty(s); got != (len(want) == 0) {
			t.Fatalf("Empty of %v is %t", s, got)
		}
		for _, x := range slices.Concat(want, others, slices.Concat(spacetest.Derived(s)...)) {
			isThere := slices.ContainsFunc(want, func(y api.Term) bool { return spacetest.Write(x) == spacetest.Write(y) })
			if got := space.Contains(s, x); got != isThere {
				t.Fatalf("Contains of %v and %s is %t", s, spacetest.Write(x), got)
			}
		}
		checkTrim(t, s)
		if !spacetest.Equal(s, before) {
			t.Fatal("an argument is changed")
		}
		if len(want) == 0 {
			empty++
		}
		if len(want) > 10 {
			full++
		}
	}
	if empty < 50 || full < 50 {
		t.Error(empty, full)
	}
}

// checkTrim checks Trim of a well-formed version space.
func checkTrim(t *testing.T, s api.Space) {
	t.Helper()
	x, e := space.Trim(s)
	if want := trimmed(s); e != api.OK || !spacetest.Equal(x, want) {
		t.Fatalf("Trim of %v is %v, %d, not %v", s, x, e, want)
	}
	again, e := space.Trim(x)
	if e != api.OK || !spacetest.Equal(again, x) || !isTrim(x) || !equalTerms(programs(x), programs(s)) || space.Check(choices(), x) != api.OK {
		t.Fatalf("Trim of %v is %v, and of that %v, %d", s, x, again, e)
	}
}

// trimmed returns the needed part of a version space. It follows the definition, from derivations and in rounds.
func trimmed(s api.Space) api.Space {
	all := spacetest.Derived(s)
	hasTerms := func(i int) bool { return len(all[i]) > 0 }
	isNeeded := map[int]bool{}
	for _, root := range s.Roots {
		if hasTerms(root) {
			isNeeded[root] = true
		}
	}
	isOptionNeeded := func(i int, o api.Option) bool {
		return isNeeded[i] && !slices.ContainsFunc(o.Args, func(arg int) bool { return !hasTerms(arg) })
	}
	for before := -1; before < len(isNeeded); {
		before = len(isNeeded)
		for i, n := range s.Nodes {
			for _, o := range n.Options {
				for _, arg := range o.Args {
					if isOptionNeeded(i, o) {
						isNeeded[arg] = true
					}
				}
			}
		}
	}
	var x api.Space
	number := map[int]int{}
	for i, n := range s.Nodes {
		if !isNeeded[i] {
			continue
		}
		m := spacetest.Node(n.Symbol, n.Size)
		for _, o := range n.Options {
			if isOptionNeeded(i, o) {
				var args []int
				for _, arg := range o.Args {
					args = append(args, number[arg])
				}
				m.Options = append(m.Options, spacetest.Option(o.Rule, args...))
			}
		}
		number[i] = len(x.Nodes)
		x.Nodes = append(x.Nodes, m)
	}
	for _, root := range s.Roots {
		if hasTerms(root) {
			x.Roots = append(x.Roots, number[root])
		}
	}
	return x
}

// P25.2, P25.3, P25.6: the examples, and version spaces that belong to no language.
func TestSetExamples(t *testing.T) {
	two := api.Space{Nodes: []api.Node{spacetest.Leaf(0, 0), spacetest.Node(0, 3, spacetest.Option(1, 0, 0))}, Roots: []int{0, 1}}
	one := derivation(0)
	double := derivation(1, one, one)
	wide := api.Space{Nodes: []api.Node{spacetest.Leaf(math.MaxInt, math.MaxInt), spacetest.Node(5, 24, spacetest.Option(7, make([]int, 23)...))}, Roots: []int{1}}
	wideTerm := derivation(7, slices.Repeat([]api.Term{derivation(math.MaxInt)}, 23)...)
	for i, x := range []struct {
		s    api.Space
		want []api.Term
	}{
		{two, []api.Term{one, double}},
		{api.Space{Nodes: two.Nodes, Roots: []int{1}}, []api.Term{double}},
		{api.Space{Nodes: two.Nodes}, nil},
		{api.Space{}, nil},
		{wide, []api.Term{wideTerm}},
		// The same program belongs to two roots, and to a root by two options.
		{api.Space{Nodes: []api.Node{spacetest.Leaf(0, 0), spacetest.Leaf(0, 0)}, Roots: []int{0, 1}}, []api.Term{one}},
		{api.Space{Nodes: []api.Node{spacetest.Leaf(0, 0), spacetest.Leaf(0, 0), spacetest.Node(0, 3, spacetest.Option(1, 0, 1), spacetest.Option(1, 1, 0))}, Roots: []int{2}}, []api.Term{double}},
		// A node with options, none of which has terms.
		{api.Space{Nodes: []api.Node{spacetest.Leaf(0, 0), spacetest.Leaf(0), spacetest.Node(0, 3, spacetest.Option(1, 0, 1), spacetest.Option(1, 1, 1)), spacetest.Node(0, 5, spacetest.Option(1, 0, 2))}, Roots: []int{1, 2, 3}}, nil},
		// Terms with many arguments, which begin in the same way.
		{choicesOf(2, 5), programs(choicesOf(2, 5))},
		{choicesOf(3, 7), programs(choicesOf(3, 7))},
		{choicesOf(2, 11), programs(choicesOf(2, 11))},
	} {
		if list, e := space.Terms(x.s); e != api.OK || !equalTerms(list, x.want) {
			t.Errorf("case %d: %v, %d", i, list, e)
		}
		for _, y := range []api.Term{one, double, wideTerm} {
			isThere := slices.ContainsFunc(x.want, func(z api.Term) bool { return spacetest.Write(y) == spacetest.Write(z) })
			if space.Contains(x.s, y) != isThere || space.Empty(x.s) != (len(x.want) == 0) {
				t.Errorf("case %d: %s", i, spacetest.Write(y))
			}
		}
		checkEqualTrim(t, x.s)
	}
}

// choicesOf returns the version space of all terms with a rule at the root that have so many arguments, which are leaves.
func choicesOf(leaves, args int) api.Space {
	return api.Space{Nodes: []api.Node{spacetest.Leaf(0, spacetest.Numbers(1, leaves)...), spacetest.Node(0, args+1, spacetest.Option(9, make([]int, args)...))}, Roots: []int{1}}
}

func checkEqualTrim(t *testing.T, s api.Space) {
	t.Helper()
	if x, e := space.Trim(s); e != api.OK || !spacetest.Equal(x, trimmed(s)) {
		t.Errorf("Trim of %v is %v, %d", s, x, e)
	}
}

// P25.2: terms of any form, and such that contain themselves.
func TestContainsOfAnyTerm(t *testing.T) {
	s := api.Space{Nodes: []api.Node{spacetest.Leaf(0, 0), spacetest.Node(0, 3, spacetest.Option(1, 0, 0)), spacetest.Node(0, 2, spacetest.Option(2, 0)), spacetest.Node(0, 24, spacetest.Option(3, make([]int, 23)...))}, Roots: []int{0, 1, 2, 3}}
	endless := api.Term{Rule: 2, Args: make([]api.Term, 1)}
	endless.Args[0] = endless
	twice := api.Term{Rule: 1, Args: make([]api.Term, 2)}
	twice.Args[0], twice.Args[1] = twice, twice
	deep := derivation(0)
	for range 1<<16 - 1 {
		deep = derivation(2, deep)
	}
	leaves := make([]api.Term, 24)
	for i, x := range []struct {
		t    api.Term
		want bool
	}{
		{derivation(0), true},
		{api.Term{Args: []api.Term{}}, true},
		{derivation(1, leaves[:2]...), true},
		{derivation(2, leaves[:1]...), true},
		{derivation(3, leaves[:23]...), true},
		{derivation(3, leaves[:22]...), false},
		{derivation(3, leaves...), false},
		{derivation(0, leaves[:1]...), false},
		{derivation(1, leaves[:1]...), false},
		{derivation(1, leaves[:3]...), false},
		{derivation(1), false},
		{derivation(-1), false},
		{derivation(math.MinInt), false},
		{derivation(math.MaxInt), false},
		{derivation(1, derivation(0), derivation(3)), false},
		{derivation(2, derivation(2, derivation(0))), false},
		{endless, false},
		{twice, false},
		{deep, false},
		{derivation(3, make([]api.Term, 1<<20)...), false},
	} {
		if got := space.Contains(s, x.t); got != x.want {
			t.Errorf("case %d: %t", i, got)
		}
	}
}

// P25.2, P25.3, P25.6: version spaces that are not well-formed.
func TestMalformed(t *testing.T) {
	for i, s := range spacetest.Malformed() {
		if space.Contains(s, derivation(0)) || !space.Empty(s) {
			t.Errorf("version space %d has programs", i)
		}
		if x, e := space.Trim(s); e != api.ErrForm || !spacetest.IsZero(x) {
			t.Errorf("Trim of version space %d is %v, %d", i, x, e)
		}
		if list, e := space.Terms(s); e != api.ErrForm || len(list) > 0 {
			t.Errorf("Terms of version space %d is %v, %d", i, list, e)
		}
	}
}

// pairs returns a version space with so many leaves, and pairs of them, and further programs of size 1.
func pairs(leaves, further int) api.Space {
	return api.Space{
		Nodes: []api.Node{spacetest.Leaf(0, spacetest.Numbers(1, leaves)...), spacetest.Node(0, 3, spacetest.Option(0, 0, 0)), spacetest.Leaf(0, spacetest.Numbers(1000, 999+further)...)},
		Roots: []int{1, 2},
	}
}

// P25.6: as many programs as may be listed, and one more.
func TestTermsLimit(t *testing.T) {
	ambiguous := pairs(64, 0)
	ambiguous.Nodes = append(ambiguous.Nodes, spacetest.Leaf(0, spacetest.Numbers(1, 63)...), spacetest.Node(0, 3, spacetest.Option(0, 0, 3), spacetest.Option(0, 3, 0)))
	ambiguous.Roots = []int{1, 4}
	chain := pairs(64, 0)
	for size := 4; size <= api.MaxSize; size++ {
		last := len(chain.Nodes) - 1
		if size == 4 {
			last = 1
		}
		chain.Nodes = append(chain.Nodes, spacetest.Node(0, size, spacetest.Option(2000, last)))
	}
	chain.Roots = []int{len(chain.Nodes) - 1}
	large := pairs(100, 0)
	// A node that no program needs may have any number of terms.
	large.Nodes = append(large.Nodes, spacetest.Leaf(0, 1), spacetest.Node(0, 5, spacetest.Option(0, 1, 3)), spacetest.Leaf(0), spacetest.Node(0, 7, spacetest.Option(0, 4, 5)), spacetest.Node(0, 7, spacetest.Option(0, 1, 1)))
	large.Roots = []int{0, 6}
	for i, x := range []struct {
		s     api.Space
		count int
	}{
		{pairs(64, 0), api.MaxTerms},
		{pairs(63, 127), api.MaxTerms},
		{pairs(64, 1), 0},
		{pairs(63, 128), 0},
		{pairs(65, 0), 0},
		{pairs(0, api.MaxTerms), api.MaxTerms},
		{pairs(0, api.MaxTerms+1), 0},
		{pairs(0, api.MaxOptions-1), 0},
		{ambiguous, api.MaxTerms},
		{chain, api.MaxTerms},
		{large, 100},
	} {
		want := api.OK
		if x.count == 0 {
			want = api.ErrMany
		}
		if list, e := space.Terms(x.s); e != want || len(list) != x.count {
			t.Errorf("case %d: %d terms, %d", i, len(list), e)
		}
	}
}

// P25.6: very many ways to few programs, and very many programs.
func TestTermsOfManyWays(t *testing.T) {
	const width = 36
	s := api.Space{Nodes: slices.Repeat([]api.Node{spacetest.Leaf(0, 0)}, width)}
	for size := 2; size <= api.MaxSize; size++ {
		n := spacetest.Node(0, size)
		for i := range width {
			n.Options = append(n.Options, spacetest.Option(1, (size-2)*width+i))
		}
		s.Nodes = append(s.Nodes, slices.Repeat([]api.Node{n}, width)...)
	}
	s.Roots = spacetest.Numbers(0, len(s.Nodes)-1)
	deep := derivation(0)
	for range api.MaxSize - 1 {
		deep = derivation(1, deep)
	}
	list, e := space.Terms(s)
	if e != api.OK || len(list) != api.MaxSize || spacetest.Write(list[api.MaxSize-1]) != spacetest.Write(deep) {
		t.Error(list, e)
	}
	if !space.Contains(s, deep) || space.Contains(s, derivation(1, deep)) || space.Contains(s, derivation(1)) || space.Empty(s) {
		t.Error("Contains and Empty")
	}
	if x, e := space.Trim(s); e != api.OK || !spacetest.Equal(x, s) {
		t.Error(e)
	}
	many := api.Space{Nodes: []api.Node{spacetest.Leaf(0, 0, 1), spacetest.Node(0, 24, spacetest.Option(2, make([]int, 23)...))}, Roots: []int{1}}
	if list, e := space.Terms(many); e != api.ErrMany || len(list) > 0 {
		t.Error(len(list), e)
	}
}
