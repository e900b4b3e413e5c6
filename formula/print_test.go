package formula_test

import (
	"strings"
	"testing"

	"synthesis/api"
	"synthesis/formula"
)

// P18.5
func TestPrint(t *testing.T) {
	for _, x := range textCases() {
		if s, e := formula.Print(x.f); s != x.text || e != api.OK {
			t.Errorf("%q, %d, not %q", s, e, x.text)
		}
	}
}

// P18.5, P18.6: texts with as many bytes as permitted, and with one more.
func TestLongTexts(t *testing.T) {
	// There are 6 bytes in each part, with those between the parts, and 3 more in all.
	long := form(api.FormAnd)
	for range (api.MaxSource - 4) / 6 {
		long.Subs = append(long.Subs, form(api.FormTrue))
	}
	rest := api.MaxSource - len(printed(long))
	if rest != 1 {
		t.Fatal(rest)
	}
	long.Subs[7] = form(api.FormFalse)
	s, e := formula.Print(long)
	if e != api.OK || len(s) != api.MaxSource {
		t.Fatal(len(s), e)
	}
	if f, at, e := formula.Parse(s); e != api.OK || at != 0 || len(f.Subs) != len(long.Subs) || printed(f) != s {
		t.Error(at, e)
	}
	if _, at, e := formula.Parse(s[:api.MaxSource-1]); at != api.MaxSource-1 || e != api.ErrSyntax {
		t.Error(at, e)
	}
	long.Subs[8] = form(api.FormFalse)
	if s, e := formula.Print(long); s != "" || e != api.ErrSize {
		t.Error(len(s), e)
	}
	for _, tooLong := range []string{s + " ", strings.Replace(s, "true", "false", 1), strings.Repeat("x", api.MaxSource+1)} {
		if f, at, e := formula.Parse(tooLong); !isZero(f) || at != 0 || e != api.ErrSize {
			t.Error(at, e)
		}
	}
	// The length of a text does not matter for its beginning.
	if _, at, e := formula.Parse("and(" + strings.Repeat("true, ", (api.MaxSource-5)/6)); at != 4+6*((api.MaxSource-5)/6) || e != api.ErrSyntax {
		t.Error(at, e)
	}
	if _, at, e := formula.Parse(strings.Repeat("x", api.MaxSource)); at != 0 || e != api.ErrSyntax {
		t.Error(at, e)
	}
	// A formula that is not proper has its own error, however long it is.
	long.Subs = append(long.Subs, form(9))
	if s, e := formula.Print(long); s != "" || e != api.ErrForm {
		t.Error(len(s), e)
	}
}

// P18.7
func TestSize(t *testing.T) {
	x := number(1)
	for i, c := range []struct {
		f    api.Formula
		want int
	}{
		{api.Formula{}, 1},
		{form(99), 1},
		{form(api.FormTrue), 1},
		{not(form(api.FormTrue)), 2},
		{form(api.FormAnd), 1},
		{form(api.FormAnd, api.Formula{}, api.Formula{}), 3},
		{is(x), 2},
		{equal(x, output()), 3},
		{equal(apply("add", x, apply("neg", x)), output()), 6},
		{form(api.FormOr, is(x), is(x), api.Formula{}), 6},
		// Formulas that are not proper.
		{api.Formula{Kind: api.FormEqual, Left: x}, 2},
		{api.Formula{Kind: api.FormEqual, Right: x}, 2},
		{api.Formula{Kind: api.FormTrue, Left: x, Right: x, Subs: []api.Formula{is(x)}}, 5},
		{is(api.Operand{Kind: -7, Subs: []api.Operand{{}, {}}}), 4},
		{is(api.Operand{Op: "add", Subs: []api.Operand{x, x}}), 1},
		{is(apply("plus", api.Operand{}, api.Operand{Subs: []api.Operand{x}})), 5},
		{nested(api.FormNot, 5000, is(negs(5000, x))), 10002},
	} {
		if n := formula.Size(c.f); n != c.want {
			t.Errorf("case %d: %d, not %d", i, n, c.want)
		}
	}
}
