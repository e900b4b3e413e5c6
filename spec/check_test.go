package spec_test

import (
	"slices"
	"testing"

	"synthesis/api"
	"synthesis/domain"
	"synthesis/example"
	"synthesis/formula"
	"synthesis/grammar"
	"synthesis/spec"
	"synthesis/term"
	"synthesis/value"
)

type checkCase struct {
	l    api.Language
	s    api.Spec
	want api.Errno
}

// checkCases returns specifications with their errors.
func checkCases() []checkCase {
	var none api.Language
	long := slices.Repeat([]api.Example{number(1, 1)}, api.MaxExamples+1)
	var many []api.Value
	for n := range int64(api.MaxDomain + 1) {
		many = append(many, value.OfInt(n))
	}
	return []checkCase{
		{sums(), with("true", nil), api.OK},
		{sums(), with("false", numbers(0)), api.OK},
		{sums(), and(with("eq(out, add(in0, in0))", numbers(0, 1, 2)), number(2, 4)), api.OK},
		{sums(), and(with("is(out)", many[1:]), long[1:]...), api.OK},
		{items(), and(with("lt(out, in1)", []api.Value{value.OfInts(nil)}, numbers(1, 2)), of(value.OfInt(1), value.OfInts(nil), value.OfInt(0))), api.OK},
		{constants(), and(with("lt(out, 7)"), of(value.OfInt(5))), api.OK},
		// Each part.
		{none, with("true"), grammar.Check(none)},
		{sums(), and(with("true", nil), of(value.OfInt(1))), api.ErrSize},
		{sums(), and(with("true", nil), long...), api.ErrSize},
		{sums(), and(with("true", nil), of(value.OfText("a"), value.OfInt(1))), api.ErrType},
		{sums(), and(with("true", nil), number(1, 1), number(1, 2)), api.ErrConflict},
		{sums(), api.Spec{Domain: with("true", nil).Domain}, api.ErrForm},
		{sums(), with("is(in1)", nil), api.ErrRange},
		{sums(), with("eq(out, \"a\")", nil), api.ErrType},
		{sums(), with("lt(in0, true)", nil), api.ErrType},
		{items(), with("eq(out, in0)", nil, nil), api.ErrType},
		{items(), with("eq(out, in1)", nil, nil), api.OK},
		{sums(), with("true"), api.ErrSize},
		{sums(), with("true", nil, nil), api.ErrSize},
		{sums(), with("true", numbers(1, api.MaxInt+1)), api.ErrRange},
		{sums(), with("true", []api.Value{value.OfText("a")}), api.ErrType},
		{sums(), with("true", numbers(1, 2, 1)), api.ErrTwice},
		{sums(), with("true", many), api.ErrMany},
		{constants(), with("true", nil), api.ErrSize},
		{constants(), with("is(in0)"), api.ErrRange},
		// The order of the errors.
		{none, and(with("is(in1)", nil, nil), long...), grammar.Check(none)},
		{sums(), and(with("is(in1)", nil, nil), number(1, 1), number(1, 2)), api.ErrConflict},
		{sums(), and(with("is(in1)", nil), of(value.OfInt(1))), api.ErrSize},
		{sums(), and(with("true", numbers(1, 1)), number(1, 1), number(1, 2)), api.ErrConflict},
		{sums(), with("is(in1)", numbers(1, 1)), api.ErrRange},
		{sums(), with("eq(in0, true)", many), api.ErrType},
		{sums(), api.Spec{}, api.ErrForm},
	}
}

// P20.1
func TestCheck(t *testing.T) {
	for i, x := range checkCases() {
		if e := spec.Check(x.l, x.s); e != x.want {
			t.Errorf("case %d: %d, not %d", i, e, x.want)
		}
		if grammar.Check(x.l) != api.OK {
			continue
		}
		want := example.Check(x.l, x.s.Examples)
		if want == api.OK {
			want = formula.Check(x.s.Formula, x.l.Inputs, x.l.Symbols[0].Type)
		}
		if want == api.OK {
			want = domain.Check(x.s.Domain, x.l.Inputs)
		}
		if want != x.want {
			t.Errorf("case %d: the parts have the error %d", i, want)
		}
	}
}

// P20.2: the error of Check comes before that of the term.
func TestErrors(t *testing.T) {
	for i, x := range checkCases() {
		for _, y := range []api.Term{{}, {Rule: -1}, {Rule: 2}, {Rule: 4, Args: []api.Term{{}}}, {Args: []api.Term{{}}}} {
			want := x.want
			if want == api.OK {
				want = term.Check(x.l, 0, y)
			}
			ok, e := spec.Satisfies(x.l, y, x.s)
			tuple, bad, f := spec.Violation(x.l, y, x.s)
			if e != want || f != want || want != api.OK && (ok || bad || tuple != nil) {
				t.Errorf("case %d, %v: %t, %d, and %v, %t, %d, not %d", i, y, ok, e, tuple, bad, f, want)
			}
		}
	}
}
