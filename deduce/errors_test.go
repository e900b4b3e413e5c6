package deduce_test

import (
	"math"
	"slices"
	"testing"

	"synthesis/api"
	"synthesis/deduce"
	"synthesis/grammar"
	"synthesis/spacetest"
	"synthesis/statetest"
	"synthesis/term"
	"synthesis/value"
)

// checkErrors checks that all functions return this error, and nothing else with it.
func checkErrors(t *testing.T, l api.Language, list []api.Example, most int, want api.Errno) {
	t.Helper()
	if s, e := deduce.Space(l, list, most); e != want || !spacetest.IsZero(s) {
		t.Errorf("Space is %v, %d, not %d", s, e, want)
	}
	if x, e := deduce.Find(l, list, most); e != want || term.Compare(x, api.Term{}) != 0 {
		t.Errorf("Find is %v, %d, not %d", x, e, want)
	}
	if plan, e := deduce.Plan(l, list, most); e != want || len(plan) > 0 {
		t.Errorf("Plan is %v, %d, not %d", plan, e, want)
	}
}

// P31.1 to P31.3: errors in their order.
func TestErrors(t *testing.T) {
	l, many := statetest.Sums(), statetest.ManyStates(2)
	one, text, tooGreat := value.OfInt(1), value.OfText("a"), value.OfInt(api.MaxInt+1)
	good, conflict := []api.Example{number(1, 2)}, []api.Example{number(1, 2), number(1, 3)}
	for i, x := range []struct {
		l    api.Language
		list []api.Example
		most int
		want api.Errno
	}{
		{l, slices.Repeat(good, api.MaxExamples+1), 3, api.ErrSize},
		{l, slices.Repeat(good, api.MaxExamples+1), 0, api.ErrSize},
		{l, conflict, 3, api.ErrConflict},
		{l, conflict, 0, api.ErrConflict},
		{l, []api.Example{{Inputs: []api.Value{one}, Output: tooGreat}}, 0, api.ErrRange},
		{l, []api.Example{{Inputs: []api.Value{one}, Output: text}}, 25, api.ErrType},
		{l, []api.Example{{Inputs: []api.Value{one}}}, 0, api.ErrType},
		{l, []api.Example{{Inputs: []api.Value{text}, Output: tooGreat}}, 3, api.ErrType},
		{l, []api.Example{{Inputs: []api.Value{tooGreat}, Output: text}}, 3, api.ErrRange},
		{l, []api.Example{{Output: text}}, 3, api.ErrSize},
		{many, []api.Example{{Output: one}, {Output: value.OfInt(2)}}, 3, api.ErrConflict},
		{many, []api.Example{{Output: one}}, 25, api.ErrRange},
		{many, []api.Example{{Output: one}}, 3, api.ErrLimit},
		// No program has this output, which the limits come before.
		{many, []api.Example{{Output: value.OfInt(99)}}, 3, api.ErrLimit},
	} {
		if checkErrors(t, x.l, x.list, x.most, x.want); t.Failed() {
			t.Fatalf("case %d", i)
		}
	}
	for _, most := range []int{0, -1, api.MaxSize + 1, math.MinInt, math.MaxInt} {
		checkErrors(t, l, nil, most, api.ErrRange)
		checkErrors(t, l, good, most, api.ErrRange)
		checkErrors(t, many, nil, most, api.ErrRange)
	}
	for _, l := range statetest.Invalid() {
		for _, list := range [][]api.Example{nil, good, conflict, slices.Repeat(good, api.MaxExamples+1)} {
			checkErrors(t, l, list, 1, grammar.Check(l))
			checkErrors(t, l, list, 0, grammar.Check(l))
		}
	}
	checkResults(t, l, slices.Repeat([]api.Example{number(1, 0)}, api.MaxExamples), 1, spacetest.SetOf(api.Term{Rule: 1}))
}

// leaves returns the terms of the first rules, which have no arguments.
func leaves(count int) spacetest.Set {
	var list []api.Term
	for rule := range count {
		list = append(list, api.Term{Rule: rule})
	}
	return spacetest.SetOf(list...)
}

// P31.1 to P31.3: exactly as many states and options as the limits permit, and one more. Symbols count that the start symbol does not derive.
func TestLimits(t *testing.T) {
	for _, x := range statetest.Limits() {
		if len(x.Tuples) == 0 {
			checkResults(t, x.Language, nil, x.Most, leaves(30))
			continue
		}
		list := []api.Example{{Output: value.OfInt(1)}}
		if x.States > api.MaxNodes || x.Options > api.MaxOptions {
			checkErrors(t, x.Language, list, x.Most, api.ErrLimit)
			continue
		}
		// The first rule is the first integer; there is none with the second output.
		checkResults(t, x.Language, list, x.Most, spacetest.SetOf(api.Term{}))
		checkResults(t, x.Language, []api.Example{{Output: value.OfInt(987654)}}, x.Most, nil)
	}
}

// P31.1 to P31.3: inputs for which programs have few outcomes, and many. All examples count.
func TestLimitsOfInputs(t *testing.T) {
	l, plain, rich := statetest.Included("strings"), value.OfText(""), value.OfText("ada lovelace")
	same := func(v api.Value) api.Example { return api.Example{Inputs: []api.Value{v}, Output: v} }
	const most = 8
	if s, e := deduce.Space(l, []api.Example{same(plain)}, most); e != api.OK || spacetest.IsZero(s) {
		t.Error(len(s.Nodes), e)
	}
	checkErrors(t, l, []api.Example{same(rich)}, most, api.ErrLimit)
	checkErrors(t, l, []api.Example{same(plain), same(rich)}, most, api.ErrLimit)
	checkErrors(t, l, []api.Example{same(rich), same(plain)}, most, api.ErrLimit)
}

// DOC.md, rule 5: results share no memory with arguments or with each other, and arguments stay as they are.
func TestMemory(t *testing.T) {
	isUsed := map[any]bool{}
	check := func(cells []any) {
		t.Helper()
		for _, cell := range cells {
			if isUsed[cell] {
				t.Fatal("a result shares memory")
			}
			isUsed[cell] = true
		}
	}
	for n, x := range families() {
		for _, r := range x.Language.Rules {
			for i := range r.Args {
				isUsed[&r.Args[i]] = true
			}
		}
		classes := statetest.ClassesOf(x.Language, x.Tuples, 3)
		for i := 0; i < len(classes); i += 1 + len(classes)/10 {
			list, isDefined := classes[i].Examples(x.Tuples)
			if !isDefined {
				continue
			}
			for range 2 {
				s, _ := deduce.Space(x.Language, list, x.Most-1)
				check(spacetest.Cells(s))
				first, _ := deduce.Find(x.Language, list, x.Most-1)
				check(spacetest.TermCells(first.Args))
				plan, _ := deduce.Plan(x.Language, list, x.Most-1)
				check(spacetest.Cells(api.Space{Roots: plan}))
			}
		}
		same := families()[n]
		areEqual := func(a, b []api.Value) bool { return slices.EqualFunc(a, b, value.Equal) }
		if !grammar.Same(x.Language, same.Language) || !slices.EqualFunc(x.Tuples, same.Tuples, areEqual) {
			t.Errorf("%s: an argument is changed", x.Language.Name)
		}
	}
}
