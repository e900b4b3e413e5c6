package propagate_test

import (
	"math"
	"slices"
	"strings"
	"testing"

	"synthesis/api"
	"synthesis/grammar"
	"synthesis/inverse"
	"synthesis/propagate"
	"synthesis/statetest"
	"synthesis/value"
)

// checkGoals compares Goals with the definition, and returns their number.
func checkGoals(t *testing.T, l api.Language, rule int, outputs []api.Value) int {
	t.Helper()
	want, wantErrno := goalsOf(l.Rules[rule], outputs)
	got, e := propagate.Goals(l, rule, outputs)
	if e != wantErrno || !equalGoals(got, want) {
		t.Fatalf("%s, %v: %v, %d, not %v, %d", l.Rules[rule].Op, outputs, got, e, want, wantErrno)
	}
	return len(got)
}

// P30.1: all invertible operators, with none, one, two and three outputs.
func TestGoals(t *testing.T) {
	lang, names := inverting()
	for rule, name := range names {
		if !inverse.Invertible(name) {
			t.Fatal(name)
		}
		if checkGoals(t, lang, rule, nil) != 1 {
			t.Errorf("%s: not one goal without outputs", name)
		}
		all := valuesOf(lang.Symbols[lang.Rules[rule].Symbol].Type)
		for i, x := range all {
			checkGoals(t, lang, rule, of(x))
			for k, y := range all {
				checkGoals(t, lang, rule, of(x, y))
				checkGoals(t, lang, rule, of(y, x, all[(i+k)%len(all)]))
			}
		}
	}
}

// P30.1: the order of goals; as many goals as the limit permits, and more; outputs without tuples beside those with many.
func TestGoalsExamples(t *testing.T) {
	lang, names := inverting()
	rule := func(name string) int { return slices.Index(names, name) }
	capitals := func(count int) api.Value { return s(strings.Repeat("A", count)) }
	for i, x := range []struct {
		name    string
		outputs []api.Value
		count   int
		e       api.Errno
	}{
		{"concat", of(s("ab")), 3, api.OK},
		{"concat", of(s("ab"), s("c")), 6, api.OK},
		{"concat", of(s(strings.Repeat("x", 15)), s(strings.Repeat("y", 15))), 256, api.OK},
		{"concat", of(s(strings.Repeat("x", 15)), s(strings.Repeat("y", 16))), 0, api.ErrMany},
		{"concat", of(s("x"), s("y"), s("z"), s("x"), s("y"), s("z"), s("x"), s("y")), 256, api.OK},
		{"concat", of(s("x"), s("y"), s("z"), s("x"), s("y"), s("z"), s("x"), s("y"), s("")), 256, api.OK},
		{"concat", of(s("x"), s("y"), s("z"), s("x"), s("y"), s("z"), s("x"), s("y"), s("z")), 0, api.ErrMany},
		{"concat", slices.Repeat(of(s("")), 1000), 1, api.OK},
		{"concat", slices.Repeat(of(s(strings.Repeat("x", 64))), 100), 0, api.ErrMany},
		{"upper", of(capitals(8)), 256, api.OK},
		{"upper", of(capitals(9)), 0, api.ErrMany},
		{"upper", of(capitals(4), capitals(4)), 256, api.OK},
		{"upper", of(capitals(4), capitals(5)), 0, api.ErrMany},
		// No text has small letters in capitals, so that there is no goal, however many choices the others have.
		{"upper", of(s("a")), 0, api.OK},
		{"upper", of(capitals(8), s("a")), 0, api.OK},
		{"upper", of(s("a"), capitals(8)), 0, api.OK},
		{"upper", of(capitals(8), capitals(8), s("a"), capitals(8)), 0, api.OK},
		{"upper", slices.Concat(slices.Repeat(of(capitals(8)), 100), of(s("a"))), 0, api.OK},
		{"upper", of(capitals(9), s("a")), 0, api.ErrMany},
		{"upper", of(s("a"), capitals(9)), 0, api.ErrMany},
		{"bxor", of(v(7)), 256, api.OK},
		{"bxor", of(v(7), v(7)), 0, api.ErrMany},
		{"band", of(v(255), v(255), v(255)), 1, api.OK},
		{"band", of(v(255), v(0)), 0, api.ErrMany},
		{"show", of(s("1"), s("-2")), 1, api.OK},
		{"show", of(s("1"), s("x")), 0, api.OK},
	} {
		g, e := propagate.Goals(lang, rule(x.name), x.outputs)
		if e != x.e || len(g) != x.count {
			t.Errorf("case %d: %d goals, %d", i, len(g), e)
		}
	}
	if g, e := propagate.Goals(lang, rule("append"), of(l(1), l(2, 3))); e != api.OK || !equalGoals(g, [][][]api.Value{
		{of(l(), l()), of(l(1), l(2, 3))}, {of(l(), l(2)), of(l(1), l(3))}, {of(l(), l(2, 3)), of(l(1), l())},
		{of(l(1), l()), of(l(), l(2, 3))}, {of(l(1), l(2)), of(l(), l(3))}, {of(l(1), l(2, 3)), of(l(), l())},
	}) {
		t.Error(g, e)
	}
	if g, e := propagate.Goals(lang, rule("bnot"), of(v(1), v(2))); e != api.OK || !equalGoals(g, [][][]api.Value{{of(v(254), v(253))}}) {
		t.Error(g, e)
	}
	if g, e := propagate.Goals(lang, rule("not"), nil); e != api.OK || !equalGoals(g, [][][]api.Value{{nil}}) {
		t.Error(g, e)
	}
}

// P30.1: errors in their order.
func TestGoalsErrors(t *testing.T) {
	lang := parts()
	long := s(strings.Repeat("x", api.MaxText+1))
	many := s(strings.Repeat("x", api.MaxText))
	for i, x := range []struct {
		rule    int
		outputs []api.Value
		want    api.Errno
	}{
		{2, of(s("a")), api.OK},
		{-1, of(n(1)), api.ErrRange},
		{4, of(n(1)), api.ErrRange},
		{math.MinInt, nil, api.ErrRange},
		{math.MaxInt, nil, api.ErrRange},
		{0, of(n(1)), api.ErrForm},
		{1, of(n(1)), api.ErrForm},
		{3, of(n(1)), api.ErrName},
		{3, nil, api.ErrName},
		{2, of(n(1)), api.ErrType},
		{2, of(n(api.MaxInt + 1)), api.ErrRange},
		{2, of(long), api.ErrSize},
		{2, of(api.Value{}), api.ErrType},
		{2, of(s("a"), n(1), long), api.ErrType},
		{2, of(s("a"), long, n(1)), api.ErrSize},
		{2, of(api.Value{Type: api.Text, Num: 1}), api.ErrForm},
		// All outputs are checked before the number of goals.
		{2, of(many, many, n(1)), api.ErrType},
		{2, of(many, many, long), api.ErrSize},
		{2, of(many, many), api.ErrMany},
	} {
		if g, e := propagate.Goals(lang, x.rule, x.outputs); e != x.want || e != api.OK && len(g) > 0 {
			t.Errorf("case %d: %v, %d, not %d", i, g, e, x.want)
		}
	}
	bits, names := inverting()
	// Too many tuples for an output come after the errors of all values.
	for i, x := range []struct {
		outputs []api.Value
		want    api.Errno
	}{
		{of(v(0), n(1)), api.ErrType},
		{of(v(0), v(256)), api.ErrRange},
		{of(v(0), v(255)), api.ErrMany},
		{of(v(255), v(0)), api.ErrMany},
	} {
		if g, e := propagate.Goals(bits, slices.Index(names, "band"), x.outputs); e != x.want || len(g) > 0 {
			t.Errorf("case %d: %v, %d, not %d", i, g, e, x.want)
		}
	}
	for _, lang := range statetest.Invalid() {
		for _, rule := range []int{-1, 0, 2, 99} {
			if g, e := propagate.Goals(lang, rule, of(api.Value{})); e == api.OK || e != grammar.Check(lang) || len(g) > 0 {
				t.Errorf("%v, %d", g, e)
			}
		}
	}
}

// P30.4: a term has the outputs of a rule exactly if its arguments have those of one of the goals.
func TestGoalsAndTerms(t *testing.T) {
	tested := 0
	for _, x := range statetest.Families() {
		for n := range min(len(x.Tuples), 2) + 1 {
			o, tuples := statetest.OracleOf(x.Language), x.Tuples[:n]
			for rule, r := range x.Language.Rules {
				if r.Kind == api.RuleOp && inverse.Invertible(r.Op) {
					tested += checkTerms(t, x.Language, rule, o.UpTo(r.Symbol, 4), tuples)
				}
			}
		}
	}
	if tested < 1000 {
		t.Errorf("%d terms", tested)
	}
}

// checkTerms compares the goals for outputs of terms with the arguments of those that have the rule at their root, whose number it returns.
func checkTerms(t *testing.T, l api.Language, rule int, terms []api.Term, tuples [][]api.Value) int {
	t.Helper()
	required := map[string][]api.Value{}
	var rooted []api.Term
	for _, y := range terms {
		if outputs, isDefined := outputsOf(l, y, tuples); isDefined && len(required) < 25 {
			required[keyOf(outputs)] = outputs
		}
		if y.Rule == rule {
			rooted = append(rooted, y)
		}
	}
	for key, outputs := range required {
		goals, e := propagate.Goals(l, rule, outputs)
		if e == api.ErrMany {
			continue
		}
		isGoal := map[string]bool{}
		for _, goal := range goals {
			isGoal[keyOf(slices.Concat(goal...))] = true
		}
		for _, y := range rooted {
			args, areDefined := argumentsOf(l, y, tuples)
			got, isDefined := outputsOf(l, y, tuples)
			if has := isDefined && keyOf(got) == key; has != (areDefined && isGoal[keyOf(args)]) {
				t.Fatalf("%s: %v with the arguments %v, %t, for %v", l.Name, y, args, has, outputs)
			}
		}
	}
	return len(rooted)
}

// argumentsOf returns the outputs of the arguments of a term, one argument after the other, or false if one of them is undefined.
func argumentsOf(l api.Language, t api.Term, tuples [][]api.Value) ([]api.Value, bool) {
	var all []api.Value
	for _, arg := range t.Args {
		outputs, isDefined := outputsOf(l, arg, tuples)
		if !isDefined {
			return nil, false
		}
		all = append(all, outputs...)
	}
	return all, true
}

// valueCells returns the addresses of all elements of lists behind values, up to their capacities.
func valueCells(list []api.Value) []any {
	var found []any
	all := list[:cap(list)]
	for i := range all {
		found = append(append(found, &all[i]), valueCells(all[i].Items)...)
	}
	return found
}

// DOC.md, rule 5: goals share no memory with arguments or with each other, and arguments stay as they are.
func TestGoalsMemory(t *testing.T) {
	lang, names := inverting()
	isUsed := map[any]bool{}
	check := func(list []api.Value) {
		t.Helper()
		for _, cell := range valueCells(list) {
			if isUsed[cell] {
				t.Fatal("a result shares memory")
			}
			isUsed[cell] = true
		}
	}
	for rule := range names {
		all := valuesOf(lang.Symbols[lang.Rules[rule].Symbol].Type)[:2]
		all = append(all, all...)
		same := slices.Clone(all)
		for i, x := range all {
			all[i].Items = slices.Clone(x.Items)
		}
		check(all)
		for range 2 {
			goals, e := propagate.Goals(lang, rule, all)
			if e != api.OK && e != api.ErrMany {
				t.Fatal(e)
			}
			for i := range goals[:cap(goals)] {
				isUsed[&goals[:cap(goals)][i]] = true
				for _, list := range goals[:cap(goals)][i] {
					check(list)
				}
			}
		}
		if !slices.EqualFunc(all, same, value.Equal) {
			t.Error("an argument is changed")
		}
	}
}
