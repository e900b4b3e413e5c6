package spec_test

import (
	"testing"

	"synthesis/api"
	"synthesis/domain"
	"synthesis/eval"
	"synthesis/formula"
	"synthesis/spec"
	"synthesis/value"
)

// P20.2: the violations, written out.
func TestViolation(t *testing.T) {
	undefined := "read(\"x\")"
	for i, x := range []struct {
		s    api.Spec
		term string
		// at is the input of the violation, and is not looked at if there is none.
		isViolated bool
		at         int64
	}{
		{with("true", nil), "in0", false, 0},
		{with("false", nil), "in0", false, 0},
		{with("true", nil), undefined, false, 0},
		{with("true", numbers(3, 4)), undefined, true, 3},
		{with("true", numbers(3, 4)), "in0", false, 0},
		{with("false", numbers(3, 4)), "in0", true, 3},
		{with("lt(in0, 4)", numbers(3, 4, 5)), "in0", true, 4},
		{with("eq(out, add(in0, in0))", numbers(0, 1, 2)), "in0", true, 1},
		{with("eq(out, add(in0, in0))", numbers(0, 1, 2)), "add(in0, in0)", false, 0},
		{with("eq(out, add(in0, in0))", numbers(0, 2, 1)), "in0", true, 2},
		{with("is(add(out, out))", numbers(1, 500001, 2)), "in0", true, 500001},
		{with("is(in0)", numbers(1, 500001, 2)), "add(in0, in0)", true, 500001},
		{with("not(is(out))", numbers(1)), undefined, true, 1},
		// The examples come first.
		{and(with("eq(out, add(in0, in0))", numbers(0, 1, 2)), number(2, 4)), "in0", true, 2},
		{and(with("eq(out, add(in0, in0))", numbers(0, 1, 2)), number(2, 4)), "add(in0, in0)", false, 0},
		{and(with("false", numbers(0, 1, 2)), number(9, 9)), "in0", true, 0},
		{and(with("false", nil), number(9, 9)), "in0", false, 0},
		{and(with("true", numbers(7)), number(1, 1), number(2, 2), number(3, 4), number(4, 5)), "in0", true, 3},
		{and(with("true", numbers(7)), number(1, 1), number(2, 2)), "in0", false, 0},
		{and(with("true", nil), number(6, 0)), undefined, true, 6},
		{and(with("true", numbers(1)), number(api.MaxInt, 0), number(5, 5)), "add(in0, in0)", true, api.MaxInt},
		{and(with("true", numbers(1)), number(0, 0), number(0, 0)), "add(in0, in0)", false, 0},
	} {
		l := sums()
		tuple, isViolated, e := spec.Violation(l, program(l, x.term), x.s)
		want := numbers(x.at)
		if !x.isViolated {
			want = nil
		}
		if e != api.OK || isViolated != x.isViolated || !sameTuple(tuple, want) {
			t.Errorf("case %d: %v, %t, %d", i, tuple, isViolated, e)
		}
		if ok, e := spec.Satisfies(l, program(l, x.term), x.s); e != api.OK || ok == x.isViolated {
			t.Errorf("case %d: %t, %d", i, ok, e)
		}
	}
}

// P20.2: a program without inputs is violated by the empty tuple.
func TestEmptyTuple(t *testing.T) {
	l := constants()
	for i, x := range []struct {
		s          api.Spec
		isViolated bool
	}{
		{with("eq(out, 5)"), false}, {with("eq(out, 6)"), true}, {and(with("true"), of(value.OfInt(5))), false}, {and(with("true"), of(value.OfInt(6))), true},
	} {
		if tuple, isViolated, e := spec.Violation(l, api.Term{}, x.s); e != api.OK || isViolated != x.isViolated || len(tuple) != 0 {
			t.Errorf("case %d: %v, %t, %d", i, tuple, isViolated, e)
		}
	}
}

// violation follows the definition, tuple by tuple.
func violation(l api.Language, y api.Term, s api.Spec) ([]api.Value, bool) {
	for _, x := range s.Examples {
		if v, e := eval.Run(l, y, x.Inputs); e != api.OK || !value.Equal(v, x.Output) {
			return x.Inputs, true
		}
	}
	all, _ := domain.All(s.Domain)
	for _, tuple := range all {
		if v, e := eval.Run(l, y, tuple); e != api.OK || !formula.Holds(s.Formula, tuple, v) {
			return tuple, true
		}
	}
	return nil, false
}

// itemSpecs returns specifications for the language items.
func itemSpecs() []api.Spec {
	list := func(l ...int64) api.Value { return value.OfInts(l) }
	lists := []api.Value{list(4, 7), list(1, 2, 3), list(0, 0)}
	var specs []api.Spec
	for _, text := range []string{"true", "false", "is(element(in0, 2))", "eq(out, head(in0))", "eq(out, element(in0, in1))", "not(lt(out, in1))", "or(eq(out, in1), lt(in1, 1))", "and(lt(0, out), lt(out, 5))"} {
		for _, axes := range [][][]api.Value{{lists, numbers(0, 1, 2)}, {lists, nil}, {lists[1:2], numbers(1, 0)}, {lists[:1], numbers(0, 1)}, {nil, numbers(0)}, {{list(3)}, numbers(0)}} {
			s := with(text, axes...)
			specs = append(specs, s, and(s, of(value.OfInt(7), lists[0], value.OfInt(1))), and(s, of(value.OfInt(4), lists[0], value.OfInt(0)), of(value.OfInt(3), lists[1], value.OfInt(2))), and(s, of(value.OfInt(0), lists[2], value.OfInt(0))))
		}
	}
	return specs
}

// itemTerms returns programs of the language items.
func itemTerms() []api.Term {
	var terms []api.Term
	for _, text := range []string{"in1", "head(in0)", "element(in0, in1)", "element(in0, head(in0))", "head(drop(in0, in1))", "head(drop(in0, head(in0)))", "element(drop(in0, in1), in1)", "element(drop(in0, in1), head(in0))"} {
		terms = append(terms, program(items(), text))
	}
	return terms
}

// P20.2
func TestDefinition(t *testing.T) {
	l := items()
	satisfied := 0
	for i, s := range itemSpecs() {
		for _, y := range itemTerms() {
			want, isViolated := violation(l, y, s)
			tuple, bad, e := spec.Violation(l, y, s)
			if e != api.OK || bad != isViolated || !sameTuple(tuple, want) {
				t.Errorf("specification %d, program %v: %v, %t, %d, not %v", i, y, tuple, bad, e, want)
			}
			ok, e := spec.Satisfies(l, y, s)
			if e != api.OK || ok == isViolated {
				t.Errorf("specification %d, program %v: %t, %d", i, y, ok, e)
			}
			if ok {
				satisfied++
			}
		}
	}
	if satisfied < 20 {
		t.Errorf("only %d cases are satisfied", satisfied)
	}
}
