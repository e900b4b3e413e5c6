package observe_test

import (
	"slices"
	"testing"

	"synthesis/api"
	"synthesis/eval"
	"synthesis/observe"
	"synthesis/statetest"
	"synthesis/value"
)

// some returns at most count terms of a list, which are spread over it.
func some(list []api.Term, count int) []api.Term {
	var chosen []api.Term
	for i := 0; i < len(list); i += 1 + len(list)/count {
		chosen = append(chosen, list[i])
	}
	return chosen
}

// P22.1, P22.5: all pairs of small terms of all symbols, and tuples from none to all.
func TestKeysAndSame(t *testing.T) {
	for _, x := range families() {
		list := some(small(x.l, 5), 45)
		for n := range len(x.tuples) + 1 {
			tuples := x.tuples[:n]
			keys := make([]string, len(list))
			for i, a := range list {
				k, e := observe.Key(x.l, a, tuples)
				if want := eval.Key(statetest.Outcomes(x.l, a, tuples)); e != api.OK || k != want {
					t.Fatalf("%s: the key of %v is %q, %d, not %q", x.l.Name, a, k, e, want)
				}
				keys[i] = k
			}
			for i, a := range list {
				for k, b := range list {
					is, e := observe.Same(x.l, a, b, tuples)
					if want := areSame(x.l, a, b, tuples); e != api.OK || is != want || is != (keys[i] == keys[k]) {
						t.Fatalf("%s: Same of %v and %v is %t, %d", x.l.Name, a, b, is, e)
					}
				}
			}
		}
	}
}

// P22.1: the examples, undefined outcomes, values of different types, and terms of different symbols.
func TestSame(t *testing.T) {
	l, o := statetest.Sums(), statetest.Overflow()
	m := statetest.Mixture()
	tuples := families()[4].tuples
	for i, x := range []struct {
		l      api.Language
		a, b   api.Term
		tuples [][]api.Value
		want   bool
	}{
		{l, program(l, "in0"), program(l, "add(in0, 0)"), statetest.Numbers(0, 1, -7, 1000000), true},
		{l, program(l, "in0"), program(l, "0"), statetest.Numbers(0), true},
		{l, program(l, "in0"), program(l, "0"), statetest.Numbers(0, 1), false},
		{l, program(l, "in0"), program(l, "0"), statetest.Numbers(1, 0), false},
		{l, program(l, "in0"), program(l, "0"), nil, true},
		// Rule 1 and rule 5 have the same constant, rule 0 and rule 4 the same input.
		{o, leaf(1), leaf(5), statetest.Numbers(3), true},
		{o, leaf(0), leaf(4), statetest.Numbers(3, 4), true},
		{o, leaf(0), leaf(5), statetest.Numbers(1000000), true},
		{o, program(o, "add(1000000, 1000000)"), program(o, "mul(1000000, 1000000)"), statetest.Numbers(0), true},
		{o, program(o, "add(in0, 1000000)"), program(o, "mul(1000000, in0)"), statetest.Numbers(2), true},
		{o, program(o, "add(in0, 1000000)"), program(o, "mul(1000000, in0)"), statetest.Numbers(2, 0), false},
		// An undefined outcome is no value.
		{o, program(o, "add(1000000, 1000000)"), program(o, "add(1000000, in0)"), statetest.Numbers(-1000000), false},
		{m, program(m, "[]"), program(m, "{}"), tuples, false},
		{m, program(m, "[]"), program(m, "<>"), tuples, false},
		{m, program(m, "0"), program(m, "0x00"), tuples, false},
		{m, program(m, "0"), program(m, "false"), tuples, false},
		{m, program(m, "r\"a\""), program(m, "\"a\""), tuples, false},
		{m, program(m, "r\"a\""), program(m, "plit(\"a\")"), tuples, true},
		{m, program(m, "head([])"), program(m, "item({}, 0)"), tuples, true},
	} {
		if got, e := observe.Same(x.l, x.a, x.b, x.tuples); e != api.OK || got != x.want {
			t.Errorf("case %d: %t, %d", i, got, e)
		}
	}
	if k, e := observe.Key(o, program(o, "add(in0, 1000000)"), statetest.Numbers(1, -1)); e != api.OK || k != "!9\n999999\n" {
		t.Errorf("%q, %d", k, e)
	}
	if k, e := observe.Key(o, leaf(0), nil); e != api.OK || k != "" {
		t.Errorf("%q, %d", k, e)
	}
}

// classesOf returns the classes by their definition.
func classesOf(l api.Language, list []api.Term, tuples [][]api.Value) [][]int {
	var classes [][]int
	for i, a := range list {
		var class []int
		for k, b := range list {
			if areSame(l, a, b, tuples) {
				class = append(class, k)
			}
		}
		if class[0] == i {
			classes = append(classes, class)
		}
	}
	return classes
}

func equalClasses(a, b [][]int) bool {
	return slices.EqualFunc(a, b, func(x, y []int) bool { return slices.Equal(x, y) })
}

// P22.2, P22.5: lists of terms in several orders, also with the same term twice.
func TestClasses(t *testing.T) {
	for _, x := range families() {
		list := some(small(x.l, 5), 30)
		reversed := slices.Clone(list)
		slices.Reverse(reversed)
		for _, list := range [][]api.Term{nil, {}, list, reversed, list[:min(1, len(list))], slices.Concat(list, reversed)} {
			for n := range len(x.tuples) + 1 {
				got, e := observe.Classes(x.l, list, x.tuples[:n])
				if want := classesOf(x.l, list, x.tuples[:n]); e != api.OK || !equalClasses(got, want) {
					t.Fatalf("%s: %v, %d, not %v", x.l.Name, got, e, want)
				}
			}
		}
	}
}

// P22.2: the example, and lists without tuples.
func TestClassesExamples(t *testing.T) {
	l := statetest.Sums()
	list := programs(l, "in0", "0", "add(in0, in0)")
	for i, x := range []struct {
		list   []api.Term
		tuples [][]api.Value
		want   [][]int
	}{
		{list, statetest.Numbers(0, 1), [][]int{{0}, {1}, {2}}},
		{list, statetest.Numbers(0), [][]int{{0, 1, 2}}},
		{list, nil, [][]int{{0, 1, 2}}},
		{nil, nil, nil},
		{nil, statetest.Numbers(0), nil},
		{programs(l, "0", "add(0, in0)", "add(0, 0)", "in0", "0"), statetest.Numbers(5), [][]int{{0, 2, 4}, {1, 3}}},
	} {
		if got, e := observe.Classes(l, x.list, x.tuples); e != api.OK || !equalClasses(got, x.want) {
			t.Errorf("case %d: %v, %d", i, got, e)
		}
	}
}

// at returns the tuples with these indices.
func at(tuples [][]api.Value, indices []int) [][]api.Value {
	var list [][]api.Value
	for _, k := range indices {
		list = append(list, tuples[k])
	}
	return list
}

// splitsOf returns the chosen tuples by their definition.
func splitsOf(l api.Language, list []api.Term, tuples [][]api.Value) []int {
	var chosen []int
	for len(classesOf(l, list, at(tuples, chosen))) < len(classesOf(l, list, tuples)) {
		best, most := -1, -1
		for k := range tuples {
			if n := len(classesOf(l, list, at(tuples, append(slices.Clone(chosen), k)))); n > most {
				best, most = k, n
			}
		}
		chosen = append(chosen, best)
	}
	return chosen
}

// P22.3, P22.5: the tuples in several orders.
func TestSplits(t *testing.T) {
	for _, x := range families() {
		list := some(small(x.l, 4), 20)
		reversed := slices.Clone(x.tuples)
		slices.Reverse(reversed)
		for _, tuples := range [][][]api.Value{nil, x.tuples, reversed, slices.Concat(x.tuples[1:], x.tuples), x.tuples[:1]} {
			for _, list := range [][]api.Term{list, nil, list[len(list)/2:], list[:min(1, len(list))], list[:len(list)/3]} {
				got, e := observe.Splits(x.l, list, tuples)
				if want := splitsOf(x.l, list, tuples); e != api.OK || !slices.Equal(got, want) {
					t.Fatalf("%s: %v, %d, not %v", x.l.Name, got, e, want)
				}
				checkSplits(t, x.l, list, tuples, got)
			}
		}
	}
}

// checkSplits checks the consequences for the chosen tuples.
func checkSplits(t *testing.T, l api.Language, list []api.Term, tuples [][]api.Value, chosen []int) {
	t.Helper()
	all, _ := observe.Classes(l, list, tuples)
	few, _ := observe.Classes(l, list, at(tuples, chosen))
	if !equalClasses(all, few) {
		t.Fatalf("%s: %v does not tell apart what all tuples do", l.Name, chosen)
	}
	sorted := slices.Clone(chosen)
	slices.Sort(sorted)
	if len(slices.Compact(sorted)) < len(chosen) || len(all) > 0 && len(chosen) >= len(all) {
		t.Fatalf("%s: %v is chosen for %d classes", l.Name, chosen, len(all))
	}
}

// P22.3: the example, and lists that are one class.
func TestSplitsExamples(t *testing.T) {
	l := statetest.Sums()
	list := programs(l, "in0", "0", "add(in0, in0)")
	for i, x := range []struct {
		l      api.Language
		list   []api.Term
		tuples [][]api.Value
		want   []int
	}{
		{l, list, statetest.Numbers(0, 1), []int{1}},
		{l, list, statetest.Numbers(1, 0), []int{0}},
		{l, list, statetest.Numbers(0, 3, 2, 1), []int{1}},
		{l, list, statetest.Numbers(0, 0), nil},
		{l, list, nil, nil},
		{l, nil, statetest.Numbers(0, 1), nil},
		{l, list[:1], statetest.Numbers(0, 1), nil},
		{l, programs(l, "in0", "in0"), statetest.Numbers(0, 1), nil},
	} {
		if got, e := observe.Splits(x.l, x.list, x.tuples); e != api.OK || !slices.Equal(got, x.want) {
			t.Errorf("case %d: %v, %d, not %v", i, got, e, x.want)
		}
	}
}

// matrix returns a language and terms that have the elements of the rows as their outcomes on the tuples 0, 1 and so on. A row ends with a further element, since the constants of a language are different.
func matrix(rows ...[]int64) (api.Language, []api.Term) {
	l := statetest.Language("language matrix\ninputs int\nsymbol S int\nsymbol L ints\nsymbol I int\nrule S = element(L, I)\nrule I = in0\n")
	var list []api.Term
	for i, row := range rows {
		l.Rules = append(l.Rules, api.Rule{Symbol: 1, Kind: api.RuleConst, Const: value.OfInts(append(row, int64(-1-i)))})
		list = append(list, api.Term{Args: []api.Term{leaf(2 + i), leaf(1)}})
	}
	return l, list
}

// P22.3: ties, and choices that are not the best in the end.
func TestSplitsChoices(t *testing.T) {
	for i, x := range []struct {
		rows   [][]int64
		tuples []int64
		want   []int
	}{
		// All tuples are equally good; the first one is chosen, and then the first one that adds something to it.
		{[][]int64{{1, 0, 0}, {0, 1, 0}, {0, 0, 1}}, []int64{0, 1, 2}, []int{0, 1}},
		{[][]int64{{1, 0, 0}, {0, 1, 0}, {0, 0, 1}}, []int64{2, 2, 0, 0, 1}, []int{0, 2}},
		// The last of two tuples is better.
		{[][]int64{{1, 1}, {1, 2}, {2, 3}}, []int64{0, 1}, []int{1}},
		{[][]int64{{1, 1}, {1, 2}, {2, 3}}, []int64{0, 7, 1, 1}, []int{2}},
		// The first two tuples together tell apart all terms, but the third one alone gives more classes than each of them.
		{[][]int64{{0, 0, 0}, {0, 1, 0}, {0, 2, 1}, {1, 0, 2}, {1, 1, 3}, {1, 2, 1}}, []int64{0, 1}, []int{1, 0}},
		{[][]int64{{0, 0, 0}, {0, 1, 0}, {0, 2, 1}, {1, 0, 2}, {1, 1, 3}, {1, 2, 1}}, []int64{0, 1, 2}, []int{2, 0, 1}},
		{[][]int64{{0, 0, 0}, {0, 1, 0}, {0, 2, 1}, {1, 0, 2}, {1, 1, 3}, {1, 2, 1}}, []int64{1, 2, 0}, []int{1, 0, 2}},
		// Two terms are in one class for all tuples.
		{[][]int64{{1, 1}, {1, 2}, {2, 2}, {1, 1}, {2, 3}}, []int64{0, 1}, []int{1, 0}},
		{[][]int64{{1, 1}, {1, 1}, {1, 1}}, []int64{0, 1}, nil},
		// Where a list ends, there is an undefined outcome, and before that the further element.
		{[][]int64{{1}, {1, 1}, {1, 1, 1}}, []int64{0, 4, 3, 2}, []int{3}},
		{[][]int64{{1}, {1, 1}, {1, 1, 1}}, []int64{0, 3, 3, 1}, []int{1, 3}},
		{[][]int64{{1, 2}, {1}, {1, 5}}, []int64{0, 2, 1}, []int{1}},
	} {
		l, list := matrix(x.rows...)
		if got, e := observe.Splits(l, list, statetest.Numbers(x.tuples...)); e != api.OK || !slices.Equal(got, x.want) {
			t.Errorf("case %d: %v, %d, not %v", i, got, e, x.want)
		}
	}
}
