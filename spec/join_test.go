package spec_test

import (
	"slices"
	"testing"

	"synthesis/api"
	"synthesis/spec"
	"synthesis/value"
)

// examples returns the examples with the inputs from first to last, whose output is the input.
func examples(first, last int64) []api.Example {
	var list []api.Example
	for n := first; n <= last; n++ {
		list = append(list, number(n, n))
	}
	return list
}

// P20.5
func TestJoin(t *testing.T) {
	for i, x := range []struct {
		a, b, want api.Spec
	}{
		{with("true"), with("false"), with("and(true, false)")},
		{with("false"), with("true"), with("and(false, true)")},
		{with("true"), with("true"), with("and(true, true)")},
		{with("and(is(out), true)", nil), with("and()", []api.Value{}), with("and(and(is(out), true), and())", nil)},
		{with("is(in0)", numbers(1, 2), nil), with("is(out)", numbers(1, 2), nil), with("and(is(in0), is(out))", numbers(1, 2), nil)},
		{and(with("true"), number(1, 2)), with("true"), and(with("and(true, true)"), number(1, 2))},
		{with("true"), and(with("true"), number(1, 2)), and(with("and(true, true)"), number(1, 2))},
		{and(with("true"), number(3, 2), number(1, 2)), and(with("true"), number(2, 2), number(1, 2), number(0, 2)), and(with("and(true, true)"), number(3, 2), number(1, 2), number(2, 2), number(0, 2))},
		{and(with("true"), number(3, 2), number(3, 2)), and(with("true"), number(4, 2), number(4, 2)), and(with("and(true, true)"), number(3, 2), number(4, 2))},
		// Examples with other numbers of inputs differ.
		{and(with("true"), of(value.OfInt(1))), and(with("true"), number(1, 1)), and(with("and(true, true)"), of(value.OfInt(1)), number(1, 1))},
		{and(with("true"), examples(1, 16)...), and(with("true"), examples(1, 16)...), and(with("and(true, true)"), examples(1, 16)...)},
		{and(with("true"), examples(1, 10)...), and(with("true"), examples(5, 16)...), and(with("and(true, true)"), examples(1, 16)...)},
		{and(with("true"), slices.Repeat(examples(1, 8), 3)...), and(with("true"), slices.Repeat(examples(9, 16), 3)...), and(with("and(true, true)"), examples(1, 16)...)},
		// What is not valid is joined, too.
		{and(api.Spec{}, of(api.Value{})), and(api.Spec{}, of(api.Value{})), api.Spec{Examples: []api.Example{{}}, Formula: api.Formula{Kind: api.FormAnd, Subs: []api.Formula{{}, {}}}}},
		{with("true", numbers(1, 1), []api.Value{{}}), with("true", numbers(1, 1), []api.Value{{}}), with("and(true, true)", numbers(1, 1), []api.Value{{}})},
	} {
		if s, e := spec.Join(x.a, x.b); e != api.OK || !sameSpec(s, x.want) {
			t.Errorf("case %d: %v, %d", i, s, e)
		}
	}
}

// P20.5: the errors, and their order.
func TestJoinErrors(t *testing.T) {
	conflict := and(with("true"), number(1, 1), number(1, 2))
	for i, x := range []struct {
		a, b api.Spec
		want api.Errno
	}{
		{with("true"), with("true", nil), api.ErrForm},
		{with("true", nil, nil), with("true", nil), api.ErrForm},
		{with("true", numbers(1)), with("true", nil), api.ErrForm},
		{with("true", numbers(1)), with("true", numbers(2)), api.ErrForm},
		{with("true", numbers(1, 2)), with("true", numbers(2, 1)), api.ErrForm},
		{with("true", numbers(1, 2)), with("true", numbers(1)), api.ErrForm},
		{with("true", numbers(1)), with("true", numbers(1, 2)), api.ErrForm},
		{with("true", numbers(1), numbers(2)), with("true", numbers(2), numbers(1)), api.ErrForm},
		{with("true", numbers(1)), with("true", []api.Value{value.OfBits(1)}), api.ErrForm},
		{and(with("true"), number(1, 1)), and(with("true"), number(1, 2)), api.ErrConflict},
		{conflict, with("true"), api.ErrConflict},
		{with("true"), conflict, api.ErrConflict},
		{and(with("true"), of(value.OfInt(1))), and(with("true"), of(value.OfBits(1))), api.ErrConflict},
		{and(with("true"), examples(1, 16)...), and(with("true"), number(17, 17)), api.ErrSize},
		{and(with("true"), examples(1, 17)...), with("true"), api.ErrSize},
		{and(with("true"), examples(1, 10)...), and(with("true"), examples(10, 17)...), api.ErrSize},
		// The order.
		{conflict, with("true", nil), api.ErrForm},
		{and(with("true"), examples(1, 17)...), with("true", nil), api.ErrForm},
		{and(with("true"), examples(1, 17)...), and(with("true"), number(17, 18)), api.ErrConflict},
		{and(with("true"), examples(1, 16)...), conflict, api.ErrConflict},
	} {
		if s, e := spec.Join(x.a, x.b); e != x.want || !isZero(s) {
			t.Errorf("case %d: %v, %d, not %d", i, s, e, x.want)
		}
	}
}

// P20.6: a program satisfies both exactly if it satisfies what they are together.
func TestBoth(t *testing.T) {
	l, specs, terms := items(), itemSpecs(), itemTerms()
	isSatisfied := make([][]bool, len(specs))
	for i, s := range specs {
		for _, y := range terms {
			ok, _ := spec.Satisfies(l, y, s)
			isSatisfied[i] = append(isSatisfied[i], ok)
		}
	}
	joined, satisfied := 0, 0
	for i, a := range specs {
		for k, b := range specs {
			s, e := spec.Join(a, b)
			if e != api.OK {
				continue
			}
			joined++
			for n, y := range terms {
				both, e := spec.Satisfies(l, y, s)
				if e != api.OK || both != (isSatisfied[i][n] && isSatisfied[k][n]) {
					t.Fatalf("%v and %v, program %v: %t, %d", a, b, y, both, e)
				}
				if both {
					satisfied++
				}
			}
		}
	}
	if joined < 1000 || satisfied < 200 {
		t.Errorf("%d specifications, %d of their programs", joined, satisfied)
	}
}
