package deduce_test

import (
	"slices"
	"testing"

	"synthesis/api"
	"synthesis/build"
	"synthesis/canon"
	"synthesis/deduce"
	"synthesis/inverse"
	"synthesis/space"
	"synthesis/spacetest"
	"synthesis/states"
	"synthesis/statetest"
	"synthesis/tally"
	"synthesis/term"
	"synthesis/value"
)

// P31.1 to P31.3: the examples of many classes of programs, for all first parts of the tuples, up to some sizes.
func TestResults(t *testing.T) {
	for _, x := range families() {
		for n := range len(x.Tuples) + 1 {
			tuples := x.Tuples[:n]
			for _, most := range []int{1, 2, x.Most - 1} {
				classes := statetest.ClassesOf(x.Language, tuples, most)
				for i := 0; i < len(classes); i += 1 + len(classes)/30 {
					if list, isDefined := classes[i].Examples(tuples); isDefined {
						checkResults(t, x.Language, list, most, classes[i].Programs)
					}
				}
			}
		}
	}
}

// The languages of the tests have all invertible operators, and others.
func TestOperators(t *testing.T) {
	isUsed, others := map[string]bool{}, 0
	for _, x := range families() {
		for _, r := range x.Language.Rules {
			if inverse.Invertible(r.Op) {
				isUsed[r.Op] = true
			} else if r.Kind == api.RuleOp {
				others++
			}
		}
	}
	if len(isUsed) != 20 || others < 20 {
		t.Error(len(isUsed), others)
	}
}

// P31.1 to P31.3: outputs that no program has.
func TestUnreal(t *testing.T) {
	late := statetest.Language("language late\ninputs\nsymbol S int\nsymbol A int\nrule S = neg(A)\nrule A = 1\n")
	undefined := statetest.Language("language undefined\ninputs\nsymbol S int\nrule S = add(S, S)\nrule S = 1000000\n")
	for _, x := range []struct {
		l    api.Language
		list []api.Example
		most int
	}{
		{doubling(), []api.Example{number(2, 3)}, 3},
		{doubling(), []api.Example{number(2, 3)}, api.MaxSize},
		{doubling(), []api.Example{number(1, 2), number(2, 5)}, api.MaxSize},
		{doubling(), []api.Example{number(1, 2)}, 2},
		{statetest.Empty(), nil, api.MaxSize},
		{statetest.Empty(), []api.Example{number(1, 1)}, 1},
		{late, nil, 1},
		// Only the terms of the start symbol are programs.
		{late, []api.Example{{Output: value.OfInt(1)}}, 2},
		// The sums are undefined, and match nothing.
		{undefined, []api.Example{{Output: value.OfInt(0)}}, 9},
		{statetest.Constants(), []api.Example{{Output: value.OfText("ba")}}, 9},
	} {
		checkResults(t, x.l, x.list, x.most, nil)
	}
}

// P31.1 to P31.3: the examples of the document.
func TestExamples(t *testing.T) {
	leaf, sum := api.Term{}, api.Term{Rule: 1, Args: []api.Term{{}, {}}}
	left, right := api.Term{Rule: 1, Args: []api.Term{sum, leaf}}, api.Term{Rule: 1, Args: []api.Term{leaf, sum}}
	for _, x := range []struct {
		list     []api.Example
		most     int
		programs []api.Term
	}{
		{[]api.Example{number(2, 4)}, 3, []api.Term{sum}},
		{[]api.Example{number(2, 3)}, 3, nil},
		{[]api.Example{number(2, 6)}, 5, []api.Term{left, right}},
		{[]api.Example{number(0, 0)}, 3, []api.Term{leaf, sum}},
		{[]api.Example{number(0, 0), number(2, 6)}, 6, []api.Term{left, right}},
		{nil, 5, []api.Term{leaf, sum, left, right}},
		{[]api.Example{}, 1, []api.Term{leaf}},
	} {
		checkResults(t, doubling(), x.list, x.most, spacetest.SetOf(x.programs...))
	}
	words := []api.Example{
		{Inputs: []api.Value{value.OfText("ada lovelace")}, Output: value.OfText("ADA")},
		{Inputs: []api.Value{value.OfText("alan turing")}, Output: value.OfText("ALAN")},
	}
	l := statetest.Included("strings")
	first, e := deduce.Find(l, words, 4)
	if names := []string{l.Rules[first.Rule].Op}; e != api.OK || names[0] != "upper" || len(first.Args) != 1 || l.Rules[first.Args[0].Rule].Op != "word" {
		t.Error(first, e)
	}
}

// greatest returns the greatest bound for which the state graph is within the limits, and the graph.
func greatest(l api.Language, tuples [][]api.Value) (int, []states.State) {
	most, all := 0, []states.State{}
	for most < api.MaxSize {
		more, e := states.Of(l, tuples, most+1, states.Operators(l))
		if e != api.OK {
			break
		}
		most, all = most+1, more
	}
	return most, all
}

// P31.4: bounds that are too great for an enumeration: Space is build.Space, Find its first program, and Plan has the rules of its roots.
func TestGreatBounds(t *testing.T) {
	for _, x := range families() {
		tuples := x.Tuples[:1]
		most, all := greatest(x.Language, tuples)
		checked := 0
		for i := len(all) - 1; i >= 0 && checked < 2; i -= 1 + len(all)/8 {
			list, isDefined := statetest.Class{Outcomes: all[i].Outcomes}.Examples(tuples)
			if all[i].Symbol == 0 && isDefined {
				checkBuilt(t, x.Language, list, most)
				checked++
			}
		}
	}
}

// checkBuilt compares the results with build.Space.
func checkBuilt(t *testing.T, l api.Language, list []api.Example, most int) {
	t.Helper()
	want, e := build.Space(l, list, most)
	s, f := deduce.Space(l, list, most)
	if e != api.OK || f != api.OK || !spacetest.Equal(s, want) || spacetest.IsZero(s) {
		t.Fatalf("%s, %v up to %d: %d nodes, %d, not %d", l.Name, list, most, len(s.Nodes), f, len(want.Nodes))
	}
	first, e := tally.Nth(s, 0)
	if found, f := deduce.Find(l, list, most); e != api.ErrMany && (e != api.OK || f != api.OK || term.Compare(found, first) != 0) {
		t.Fatalf("%s, %v up to %d: %v, %d, not %v", l.Name, list, most, found, f, first)
	}
	var roots []int
	for _, root := range s.Roots {
		for _, o := range s.Nodes[root].Options {
			roots = append(roots, o.Rule)
		}
	}
	slices.Sort(roots)
	if plan, e := deduce.Plan(l, list, most); e != api.OK || !slices.Equal(plan, slices.Compact(roots)) {
		t.Fatalf("%s, %v up to %d: %v, %d, not %v", l.Name, list, most, plan, e, roots)
	}
}

// P31.2: more programs than can be counted, all of the same size, or of several ones.
func TestVeryManyPrograms(t *testing.T) {
	comb := api.Language{Name: "comb", Symbols: statetest.Symbols(slices.Repeat([]int{api.Int}, 12)...)}
	for symbol := range 10 {
		comb.Rules = append(comb.Rules, statetest.Op(symbol, "add", 11, symbol+1))
	}
	comb.Rules = append(comb.Rules, statetest.Op(10, "add", 11, 11))
	comb.Rules = append(comb.Rules, statetest.ConstantRules(11, statetest.Integers(80))...)
	bools := statetest.Language("language bools\ninputs bool bool bool bool\nsymbol B bool\nrule B = or(B, B)\nrule B = and(B, B)\nrule B = not(B)\nrule B = in0\nrule B = in1\nrule B = in2\nrule B = in3\nrule B = true\nrule B = false\n")
	lastLeaves := slices.Repeat([]int{11}, 2)
	var rules []int
	for symbol := range 10 {
		rules = append(rules, symbol, 11)
	}
	rules = append(append(rules, 10), lastLeaves...)
	for i, x := range []struct {
		l    api.Language
		list []api.Example
		want []int
		plan []int
	}{
		{comb, nil, rules, []int{0}},
		{bools, []api.Example{{Inputs: slices.Repeat([]api.Value{value.OfBool(true)}, 4), Output: value.OfBool(false)}}, []int{8}, []int{0, 1, 2, 8}},
	} {
		s, e := deduce.Space(x.l, x.list, api.MaxSize)
		if n, f := tally.Count(s); e != api.OK || f != api.ErrMany {
			t.Fatalf("case %d: %d, %d programs, %d", i, e, n, f)
		}
		if first, e := deduce.Find(x.l, x.list, api.MaxSize); e != api.OK || !slices.Equal(term.Rules(first), x.want) {
			t.Errorf("case %d: %v, %d, not %v", i, term.Rules(first), e, x.want)
		}
		if plan, e := deduce.Plan(x.l, x.list, api.MaxSize); e != api.OK || !slices.Equal(plan, x.plan) {
			t.Errorf("case %d: %v, %d", i, plan, e)
		}
	}
}

// P31.4: with more examples there are not more programs, and with a greater bound not fewer ones.
func TestConsequences(t *testing.T) {
	for _, x := range families() {
		classes := statetest.ClassesOf(x.Language, x.Tuples, x.Most-2)
		for i := 0; i < len(classes); i += 1 + len(classes)/8 {
			list, isDefined := classes[i].Examples(x.Tuples)
			if !isDefined {
				continue
			}
			for n := range list {
				for most := 1; most < x.Most; most++ {
					fewer := deduced(t, x.Language, list[:n+1], most)
					checkSubset(t, fewer, deduced(t, x.Language, list[:n], most))
					checkSubset(t, fewer, deduced(t, x.Language, list[:n+1], most+1))
				}
			}
			// An example that occurs twice changes nothing.
			all := deduced(t, x.Language, list, x.Most-1)
			if again := deduced(t, x.Language, append(slices.Clone(list), list[:min(1, len(list))]...), x.Most-1); !spacetest.Equal(again, all) || space.Check(x.Language, all) != api.OK {
				t.Fatalf("%s: %v, twice: %v", x.Language.Name, list, again)
			}
		}
	}
}

func deduced(t *testing.T, l api.Language, list []api.Example, most int) api.Space {
	t.Helper()
	s, e := deduce.Space(l, list, most)
	if e != api.OK {
		t.Fatal(l.Name, list, most, e)
	}
	return s
}

func checkSubset(t *testing.T, a, b api.Space) {
	t.Helper()
	if is, e := canon.Subset(a, b); e != api.OK || !is {
		t.Fatalf("%v is not a subset of %v, %d", a, b, e)
	}
}
