package formula_test

import (
	"reflect"
	"slices"
	"testing"

	"synthesis/api"
	"synthesis/formula"
	"synthesis/value"
)

// pushed returns f, or its negation, by the definition, with the texts of the parts.
func pushed(f api.Formula, isNegated bool) string {
	open := map[int]string{api.FormAnd: "and(", api.FormOr: "or("}
	switch f.Kind {
	case api.FormNot:
		return pushed(f.Subs[0], !isNegated)
	case api.FormTrue, api.FormFalse:
		if isNegated {
			return printed(form(api.FormTrue + api.FormFalse - f.Kind))
		}
		return printed(f)
	case api.FormAnd, api.FormOr:
		text := open[f.Kind]
		if isNegated {
			text = open[api.FormAnd+api.FormOr-f.Kind]
		}
		for i, sub := range f.Subs {
			if i > 0 {
				text += ", "
			}
			text += pushed(sub, isNegated)
		}
		return text + ")"
	}
	if isNegated {
		return "not(" + printed(f) + ")"
	}
	return printed(f)
}

// P18.3
func TestNegate(t *testing.T) {
	for text, want := range map[string]string{
		"true": "false", "false": "true", "and()": "or()", "or()": "and()",
		"is(in0)": "not(is(in0))", "eq(out, 1)": "not(eq(out, 1))", "lt(in0, add(out, 2))": "not(lt(in0, add(out, 2)))",
		"not(is(in0))": "is(in0)", "not(not(is(in0)))": "not(is(in0))", "not(not(not(lt(in0, out))))": "lt(in0, out)", "not(true)": "true", "not(not(true))": "false",
		"and(eq(out, 1), not(is(in0)))":                        "or(not(eq(out, 1)), is(in0))",
		"not(and(eq(out, 1), not(is(in0))))":                   "and(eq(out, 1), not(is(in0)))",
		"not(or(true, not(not(false)), and(is(out), true)))":   "or(true, false, and(is(out), true))",
		"or(and(is(out)), is(out), is(out), and(true, false))": "and(or(not(is(out))), not(is(out)), not(is(out)), or(false, true))",
		"not(not(and(not(or(is(in0), is(in1))), true)))":       "or(or(is(in0), is(in1)), false)",
	} {
		n, e := formula.Negate(parsed(text))
		if e != api.OK || printed(n) != want {
			t.Errorf("Negate of %s is %v, %d", text, n, e)
		}
	}
	for _, f := range small() {
		n, e := formula.Negate(f)
		if e != api.OK || printed(n) != pushed(f, true) {
			t.Fatalf("Negate of %s is %v, %d", printed(f), n, e)
		}
	}
}

// P18.3: a negation that has too many levels, and formulas as deep that have one.
func TestNegateLevels(t *testing.T) {
	x, yes := is(number(1)), form(api.FormTrue)
	for i, c := range []struct {
		f    api.Formula
		want api.Errno
	}{
		{nested(api.FormAnd, 31, yes), api.OK},
		{nested(api.FormAnd, 31, form(api.FormOr)), api.OK},
		{nested(api.FormAnd, 30, x), api.OK},
		{nested(api.FormAnd, 31, x), api.ErrSize},
		{nested(api.FormOr, 31, equal(negs(31, output()), output())), api.ErrSize},
		{nested(api.FormAnd, 30, not(x)), api.OK},
		{nested(api.FormNot, 31, x), api.OK},
		{nested(api.FormAnd, 20, nested(api.FormNot, 11, x)), api.OK},
		{nested(api.FormAnd, 20, nested(api.FormNot, 10, nested(api.FormOr, 1, x))), api.OK},
		{form(api.FormAnd, yes, nested(api.FormOr, 30, x)), api.ErrSize},
		{form(api.FormAnd, nested(api.FormOr, 30, x), form(api.FormNot)), api.ErrForm},
		{nested(api.FormAnd, 32, x), api.ErrSize},
		// Operands have levels of their own.
		{is(negs(31, output())), api.OK},
		{nested(api.FormOr, 30, less(negs(31, output()), negs(31, output()))), api.OK},
	} {
		n, e := formula.Negate(c.f)
		if e != c.want || isZero(n) != (e != api.OK) {
			t.Errorf("case %d: %v, %d, not %d", i, n, e, c.want)
		}
		if e == api.OK && printed(n) != pushed(c.f, true) {
			t.Errorf("case %d: %s", i, printed(n))
		}
	}
}

// reduction returns Reduce by the definition.
func reduction(f api.Formula) api.Formula {
	switch f.Kind {
	case api.FormNot:
		h := reduction(f.Subs[0])
		switch h.Kind {
		case api.FormTrue, api.FormFalse:
			return form(api.FormTrue + api.FormFalse - h.Kind)
		case api.FormNot:
			return h.Subs[0]
		}
		return not(h)
	case api.FormAnd:
		return listReduction(f, api.FormFalse, api.FormTrue)
	case api.FormOr:
		return listReduction(f, api.FormTrue, api.FormFalse)
	}
	return f
}

func listReduction(f api.Formula, absorbing, neutral int) api.Formula {
	var list, rest []api.Formula
	for _, sub := range f.Subs {
		h := reduction(sub)
		if h.Kind == f.Kind {
			list = append(list, h.Subs...)
		} else {
			list = append(list, h)
		}
	}
	if slices.ContainsFunc(list, func(g api.Formula) bool { return g.Kind == absorbing }) {
		return form(absorbing)
	}
	for i, g := range list {
		isEarlier := slices.ContainsFunc(list[:i], func(h api.Formula) bool { return reflect.DeepEqual(g, h) })
		if g.Kind != neutral && !isEarlier {
			rest = append(rest, g)
		}
	}
	switch len(rest) {
	case 0:
		return form(neutral)
	case 1:
		return rest[0]
	}
	return form(f.Kind, rest...)
}

// P18.4
func TestReduce(t *testing.T) {
	for text, want := range map[string]string{
		"true": "true", "false": "false", "is(in0)": "is(in0)", "lt(in0, 1)": "lt(in0, 1)", "eq(add(1, 2), out)": "eq(add(1, 2), out)",
		"not(true)": "false", "not(false)": "true", "not(is(in0))": "not(is(in0))", "not(not(is(in0)))": "is(in0)", "not(not(not(is(in0))))": "not(is(in0))", "not(not(not(true)))": "false",
		"and()": "true", "or()": "false", "not(and())": "false", "not(or())": "true", "and(true, true)": "true", "or(false, false)": "false",
		"and(is(in0))": "is(in0)", "or(is(in0))": "is(in0)", "and(true, is(in0))": "is(in0)", "or(is(in0), false)": "is(in0)",
		"and(is(in0), false)": "false", "or(is(in0), true)": "true", "and(is(in0), or(is(in1), true))": "is(in0)", "or(is(in0), and(is(in1), false))": "is(in0)",
		"and(is(in0), is(in0))": "is(in0)", "or(is(in0), is(in1), is(in0))": "or(is(in0), is(in1))", "and(is(in1), is(in0), is(in1), is(in0))": "and(is(in1), is(in0))",
		"and(true, and(is(in0), is(in0)))": "is(in0)", "and(is(in0), and(is(in1), is(in2)), is(in3))": "and(is(in0), is(in1), is(in2), is(in3))",
		"or(or(or(is(in0), is(in1)), is(in2)), or(is(in1), is(in3)))": "or(is(in0), is(in1), is(in2), is(in3))",
		"and(or(is(in0), is(in1)), or(is(in1), is(in0)))":             "and(or(is(in0), is(in1)), or(is(in1), is(in0)))",
		"and(or(is(in0), is(in1)), or(is(in0), is(in1)))":             "or(is(in0), is(in1))",
		"or(and(or(is(in0), is(in1))), is(in2))":                      "or(is(in0), is(in1), is(in2))",
		"not(and(is(in0), is(in1)))":                                  "not(and(is(in0), is(in1)))",
		"and(is(in0), not(or(false, not(is(in1)))))":                  "and(is(in0), is(in1))",
		"and(not(not(and(is(in0), is(in1)))), is(in0))":               "and(is(in0), is(in1))",
		// Only equal parts are removed.
		"and(eq(in0, in1), eq(in1, in0))": "and(eq(in0, in1), eq(in1, in0))", "or(eq(1, out), lt(1, out), is(1), is(out))": "or(eq(1, out), lt(1, out), is(1), is(out))",
		"or(is(1), is(\"1\"), is(0x01), is([1]), is({\"1\"}), is(<{\"1\"}>), is(r\"1\"))": "or(is(1), is(\"1\"), is(0x01), is([1]), is({\"1\"}), is(<{\"1\"}>), is(r\"1\"))",
		"and(is(in0), not(is(in0)))":                        "and(is(in0), not(is(in0)))",
		"and(is(neg(in0)), is(neg(in1)), is(neg(in0)))":     "and(is(neg(in0)), is(neg(in1)))",
		"or(is(min(in0, in1)), is(max(in0, in1)), is(in0))": "or(is(min(in0, in1)), is(max(in0, in1)), is(in0))",
	} {
		r, e := formula.Reduce(parsed(text))
		if e != api.OK || printed(r) != want {
			t.Errorf("Reduce of %s is %v, %d", text, r, e)
		}
	}
	for _, f := range small() {
		r, e := formula.Reduce(f)
		if want := reduction(f); e != api.OK || printed(r) != printed(want) {
			t.Fatalf("Reduce of %s is %s, %d", printed(f), printed(r), e)
		}
	}
	// The lists may be long.
	long := form(api.FormOr)
	for i := range int64(60000) {
		long.Subs = append(long.Subs, equal(output(), number(i%20000)))
	}
	if r, e := formula.Reduce(form(api.FormAnd, long, long)); e != api.OK || r.Kind != api.FormOr || len(r.Subs) != 20000 {
		t.Error(r.Kind, len(r.Subs), e)
	}
}

// P18.8: what formulas, negations and reductions have to do with each other.
func TestChangeConsequences(t *testing.T) {
	tuples := [][2]int64{{0, 1}, {0, 2}, {1, 1}, {1, 2}}
	for _, f := range small() {
		n, _ := formula.Negate(f)
		r, _ := formula.Reduce(f)
		again, e := formula.Reduce(r)
		if e != api.OK || printed(again) != printed(r) || formula.Size(r) > formula.Size(f) {
			t.Fatalf("Reduce of %s is %s", printed(f), printed(r))
		}
		for _, x := range tuples {
			inputs, output := []api.Value{value.OfInt(x[0])}, value.OfInt(x[1])
			holds := formula.Holds(f, inputs, output)
			if formula.Holds(n, inputs, output) == holds || formula.Holds(r, inputs, output) != holds {
				t.Fatalf("%s, %s and %s for %v", printed(f), printed(n), printed(r), x)
			}
		}
	}
}
