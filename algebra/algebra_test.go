package algebra_test

import (
	"math"
	"slices"
	"testing"

	"synthesis/algebra"
	"synthesis/api"
	"synthesis/canon"
	"synthesis/spacetest"
	"synthesis/tally"
	"synthesis/term"
)

var rules = spacetest.Mixed()

// P28.1, P28.4: all pairs of version spaces with few programs, by the definitions.
func TestSets(t *testing.T) {
	var d spacetest.Dice
	var list []api.Space
	for n := range 64 {
		s := rules.Random(&d, d.Roll(10))
		list = append(list, s)
		if n%4 == 0 {
			least, _ := canon.Minimal(s)
			list = append(list, least)
		}
		if n%4 == 1 && len(s.Roots) > 0 {
			list = append(list, api.Space{Nodes: s.Nodes, Roots: s.Roots[1:]})
		}
	}
	var sets []spacetest.Set
	for _, s := range list {
		sets = append(sets, spacetest.Programs(s))
	}
	common, different := 0, 0
	for i, a := range list {
		for k, b := range list {
			x, y := sets[i], sets[k]
			isIn := func(s spacetest.Set) func(string, api.Term) bool {
				return func(text string, _ api.Term) bool { return s.Has(text) }
			}
			isNotIn := func(s spacetest.Set) func(string, api.Term) bool {
				return func(text string, _ api.Term) bool { return !s.Has(text) }
			}
			both := x.Kept(isIn(y))
			either := spacetest.SetOf(append(x.Sorted(), y.Sorted()...)...)
			union := check(t, "Union", either)(algebra.Union(a, b))
			intersection := check(t, "Intersect", both)(algebra.Intersect(a, b))
			difference := check(t, "Minus", x.Kept(isNotIn(y)))(algebra.Minus(a, b))
			checkParts(t, union, intersection, difference)
			if len(both) > 3 && len(both) < len(x) && len(both) < len(y) {
				common++
			}
			if len(either) > len(x) && len(either) > len(y) {
				different++
			}
		}
	}
	if common < 10 || different < 1000 {
		t.Error(common, different)
	}
}

// check checks that a version space is the canonical one of a set, and returns it.
func check(t *testing.T, name string, want spacetest.Set) func(s api.Space, e api.Errno) api.Space {
	return func(s api.Space, e api.Errno) api.Space {
		t.Helper()
		if canonical := rules.Canonical(want); e != api.OK || !spacetest.Equal(s, canonical) {
			t.Fatalf("%s is %v, %d, not %v", name, s, e, canonical)
		}
		return s
	}
}

// checkParts checks that an intersection and a difference have no common programs, and that all counts fit the union.
func checkParts(t *testing.T, union, intersection, difference api.Space) {
	t.Helper()
	if none, e := algebra.Intersect(intersection, difference); e != api.OK || !spacetest.IsZero(none) {
		t.Fatalf("%v and %v have common programs: %v, %d", intersection, difference, none, e)
	}
	rest, e := algebra.Minus(union, difference)
	m, f := tally.Count(difference)
	n, g := tally.Count(rest)
	if all, h := tally.Count(union); all != m+n || e != api.OK || f != api.OK || g != api.OK || h != api.OK {
		t.Fatalf("%d programs are not %d and %d", all, m, n)
	}
}

// P28.4: a version space and itself, and counts of all results.
func TestItself(t *testing.T) {
	var d spacetest.Dice
	for range 300 {
		a, b := rules.Random(&d, 10), rules.Random(&d, 10)
		least, _ := canon.Minimal(a)
		for i, f := range []func(a, b api.Space) (api.Space, api.Errno){algebra.Union, algebra.Intersect} {
			if x, e := f(a, a); e != api.OK || !spacetest.Equal(x, least) {
				t.Fatalf("function %d of %v and itself is %v, %d", i, a, x, e)
			}
			x, _ := f(a, b)
			if y, e := f(b, a); e != api.OK || !spacetest.Equal(x, y) {
				t.Fatalf("function %d of %v and %v is %v, or %v", i, a, b, x, y)
			}
		}
		if x, e := algebra.Minus(a, a); e != api.OK || !spacetest.IsZero(x) {
			t.Fatalf("Minus of %v and itself is %v, %d", a, x, e)
		}
		union, _ := algebra.Union(a, b)
		both, _ := algebra.Intersect(a, b)
		if count(union)+count(both) != count(a)+count(b) {
			t.Fatalf("the counts of %v and %v do not fit", a, b)
		}
		onlyA, _ := algebra.Minus(a, b)
		onlyB, _ := algebra.Minus(b, a)
		parts, _ := algebra.Union(onlyA, both)
		parts, _ = algebra.Union(onlyB, parts)
		if !spacetest.Equal(parts, union) || count(onlyA)+count(onlyB)+count(both) != count(union) {
			t.Fatalf("the parts of %v and %v are %v, not %v", a, b, parts, union)
		}
	}
}

func count(s api.Space) int64 {
	n, _ := tally.Count(s)
	return n
}

// P28.2: programs up to a size, by the definition.
func TestLimit(t *testing.T) {
	var d spacetest.Dice
	fewer := 0
	for range 300 {
		s := rules.Random(&d, d.Roll(14))
		programs := spacetest.Programs(s)
		for _, most := range []int{1, 2, 3, 4, 5, 6, 7, api.MaxSize} {
			want := programs.Kept(func(_ string, x api.Term) bool { return term.Size(x) <= most })
			check(t, "Limit", want)(algebra.Limit(s, most))
			if len(want) > 0 && len(want) < len(programs) {
				fewer++
			}
		}
	}
	if fewer < 100 {
		t.Error(fewer)
	}
}

// uses reports whether a rule occurs in a term.
func uses(x api.Term, rule int) bool {
	return slices.Contains(term.Rules(x), rule)
}

// P28.3, P28.4: programs with a rule and without it, by the definition.
func TestUsing(t *testing.T) {
	var d spacetest.Dice
	mixed := 0
	for range 300 {
		s := rules.Random(&d, d.Roll(16))
		programs := spacetest.Programs(s)
		least, _ := canon.Minimal(s)
		for rule := -1; rule <= len(rules); rule++ {
			var parts []api.Space
			for _, used := range []bool{false, true} {
				want := programs.Kept(func(_ string, x api.Term) bool { return uses(x, rule) == used })
				parts = append(parts, check(t, "Using", want)(algebra.Using(s, rule, used)))
			}
			if count(parts[0]) > 2 && count(parts[1]) > 2 {
				mixed++
			}
			all, e := algebra.Union(parts[0], parts[1])
			if e != api.OK || !spacetest.Equal(all, least) || count(parts[0])+count(parts[1]) != count(all) {
				t.Fatalf("%v and %v are %v, %d, not %v", parts[0], parts[1], all, e, least)
			}
		}
		for _, rule := range []int{math.MaxInt, math.MinInt} {
			check(t, "Using", programs)(algebra.Using(s, rule, false))
			check(t, "Using", nil)(algebra.Using(s, rule, true))
		}
	}
	if mixed < 300 {
		t.Error(mixed)
	}
}

// P28.3: nodes that become one, and nodes that are split, where programs use a rule.
func TestUsingClasses(t *testing.T) {
	leaf, node, option := spacetest.Leaf, spacetest.Node, spacetest.Option
	// The leaves 1 and 7 are split by the rule 1, which rule 8 does not need in any other argument if one has it.
	args := spacetest.Space(1, leaf(0, 1, 7), leaf(1, 5), node(0, 4, option(8, 1, 0, 0)))
	// The leaf 3 is special only in programs without the rule 1.
	special := spacetest.Space(2, leaf(0, 1), leaf(0, 3), leaf(0, 7), leaf(1, 5),
		node(1, 3, option(2, 1, 3)), node(0, 3, option(4, 0, 1), option(4, 0, 2)))
	// The rule 6 is in all contexts of the leaves 5 and 9, or in those of the left ones.
	around := spacetest.Space(1, leaf(1, 5, 9), leaf(0, 1), node(1, 2, option(6, 0)), node(1, 4, option(2, 1, 2)))
	apart := spacetest.Space(2, leaf(1, 5, 9), leaf(0, 1), node(1, 2, option(6, 0)), node(1, 3, option(2, 1, 0)), node(1, 4, option(2, 1, 2)))
	for i, s := range []api.Space{args, special, around, apart} {
		programs := spacetest.Programs(s)
		if len(programs) < 2 {
			t.Fatalf("case %d: %v", i, programs)
		}
		for rule := range rules {
			for _, used := range []bool{false, true} {
				want := programs.Kept(func(_ string, x api.Term) bool { return uses(x, rule) == used })
				check(t, "Using", want)(algebra.Using(s, rule, used))
			}
		}
	}
}

// P28.1 to P28.3: the examples.
func TestExamples(t *testing.T) {
	small := spacetest.Leaf(0, 0)
	great := spacetest.Node(0, 3, spacetest.Option(1, 0, 0))
	s := spacetest.Space(2, small, great)
	for i, x := range []struct {
		f    func() (api.Space, api.Errno)
		want api.Space
	}{
		{func() (api.Space, api.Errno) { return algebra.Using(s, 1, true) }, spacetest.Space(1, small, great)},
		{func() (api.Space, api.Errno) { return algebra.Using(s, 1, false) }, spacetest.Space(1, small)},
		{func() (api.Space, api.Errno) { return algebra.Using(s, 0, true) }, s},
		{func() (api.Space, api.Errno) { return algebra.Using(s, 0, false) }, api.Space{}},
		{func() (api.Space, api.Errno) { return algebra.Limit(s, 2) }, spacetest.Space(1, small)},
		{func() (api.Space, api.Errno) { return algebra.Limit(s, 3) }, s},
		{func() (api.Space, api.Errno) { return algebra.Minus(s, s) }, api.Space{}},
		{func() (api.Space, api.Errno) { return algebra.Union(api.Space{}, s) }, s},
		{func() (api.Space, api.Errno) { return algebra.Union(api.Space{}, api.Space{}) }, api.Space{}},
		{func() (api.Space, api.Errno) { return algebra.Intersect(s, api.Space{}) }, api.Space{}},
		{func() (api.Space, api.Errno) { return algebra.Minus(s, api.Space{}) }, s},
	} {
		if got, e := x.f(); e != api.OK || !spacetest.Equal(got, x.want) {
			t.Errorf("case %d: %v, %d, not %v", i, got, e, x.want)
		}
	}
}
