package formula_test

import (
	"testing"

	"synthesis/api"
	"synthesis/formula"
	"synthesis/value"
)

// P18.2: all kinds, and operands that are undefined.
func TestHolds(t *testing.T) {
	inputs := []api.Value{value.OfInt(2), value.OfText("ab"), value.OfInts([]int64{3, 1})}
	output := value.OfInt(4)
	for text, want := range map[string]bool{
		"true": true, "false": false, "not(true)": false, "not(false)": true, "not(not(true))": true,
		"and()": true, "or()": false, "and(true)": true, "and(false)": false, "or(false)": false, "or(true)": true,
		"and(true, true)": true, "and(true, false)": false, "and(false, true)": false, "and(true, true, false)": false,
		"or(false, false)": false, "or(true, false)": true, "or(false, true)": true, "or(false, false, true)": true,
		"not(and())": false, "not(or())": true, "and(or(true, false), not(false))": true,
		"is(in0)": true, "is(out)": true, "is(1)": true, "is(add(in0, 1))": true, "is(add(in0, 1000000))": false, "is(neg(add(in0, 1000000)))": false,
		"not(is(add(in0, 1000000)))": true, "is(min(1, add(in0, 1000000)))": false, "is(min(add(in0, 1000000), 1))": false, "is(ifint(true, 1, add(in0, 1000000)))": false,
		"eq(out, 4)": true, "eq(4, out)": true, "eq(out, 5)": false, "eq(out, in0)": false, "eq(out, add(in0, in0))": true, "eq(out, mul(in0, len(in1)))": true,
		"eq(in1, \"ab\")": true, "eq(upper(in1), \"AB\")": true, "eq(in2, [3, 1])": true, "eq(in2, [3])": false, "eq(sort(in2), [1, 3])": true, "eq(true, less(in0, out))": true,
		"lt(in0, out)": true, "lt(out, in0)": false, "lt(out, out)": false, "lt(out, 4)": false, "lt(-1, in0)": true, "lt(false, true)": true, "lt(true, false)": false,
		"lt(\"a\", in1)": true, "lt(\"b\", in1)": false, "lt(\"aa\", in1)": true, "lt(\"\", in1)": true, "lt([3], in2)": true, "lt([3, 0, 9], in2)": true, "lt([4], in2)": false,
		"lt(0x01, 0xff)": true, "lt({\"b\"}, {\"a\"})": false, "lt(<>, <{\"\"}>)": true, "lt(r\"a\", r\"b\")": true,
		// Undefined sides are neither equal nor less.
		"eq(read(in1), out)": false, "eq(out, read(in1))": false, "eq(read(in1), read(in1))": false, "lt(read(in1), out)": false, "lt(out, read(in1))": false,
		"not(eq(read(in1), out))": true, "not(lt(out, read(in1)))": true, "not(eq(read(in1), read(in1)))": true,
		// What does not fit makes everything false, even where it does not matter.
		"is(in3)": false, "not(is(in3))": false, "or(true, is(in3))": false, "or(true, eq(in0, in1))": false, "or(true, is(len(in0)))": false, "not(eq(out, in1))": false, "and(false, is(in3))": false, "not(and(false, is(in3)))": false,
	} {
		if got := formula.Holds(parsed(text), inputs, output); got != want {
			t.Errorf("%s: %t", text, got)
		}
	}
	if !formula.Holds(parsed("not(eq(read(in0), out))"), []api.Value{value.OfText("x")}, value.OfInt(1)) {
		t.Error("the example 4")
	}
}

// P18.2: values that are not valid, and too many of them.
func TestHoldsForValues(t *testing.T) {
	yes, n, tooGreat := form(api.FormTrue), value.OfInt(1), value.OfInt(api.MaxInt+1)
	for i, x := range []struct {
		inputs []api.Value
		output api.Value
		want   bool
	}{
		{nil, n, true},
		{[]api.Value{}, value.OfTable(nil), true},
		{[]api.Value{n, n, n, n}, n, true},
		{[]api.Value{n, n, n, n, n}, n, false},
		{nil, api.Value{}, false},
		{nil, tooGreat, false},
		{[]api.Value{tooGreat}, n, false},
		{[]api.Value{n, {}}, n, false},
		{[]api.Value{{Type: api.Int, Text: "a"}, n}, n, false},
		{[]api.Value{{Type: 9}}, n, false},
	} {
		for _, f := range []api.Formula{yes, not(form(api.FormFalse)), is(output())} {
			if got := formula.Holds(f, x.inputs, x.output); got != x.want {
				t.Errorf("case %d: %t", i, got)
			}
		}
	}
	// No input is permitted that is used, and not there.
	if formula.Holds(not(is(input(0))), nil, n) || !formula.Holds(is(input(0)), []api.Value{n}, n) {
		t.Error("an input that is not there")
	}
}
