package eval_test

import (
	"testing"

	"synthesis/api"
	"synthesis/eval"
	"synthesis/value"
)

// spoil overwrites the memory behind a value.
func spoil(v api.Value) {
	all := v.Items[:cap(v.Items)]
	for i := range all {
		spoil(all[i])
		all[i] = value.OfInt(-77)
	}
}

// DOC.md, rule 5: results share no memory with arguments or with each other, and arguments stay as they are.
func TestMemory(t *testing.T) {
	l := mixture()
	// The inputs and the constants that are lists, alone and as arguments.
	var terms []api.Term
	for _, text := range []string{"in0", "in1", "in2", `<{"a", "b"}, {"", "c"}>`, "[3, -4]", `{"ab", "b"}`, "transpose(in0)", "stack(in0, in0)",
		`stack(<{"a", "b"}, {"", "c"}>, <{"a", "b"}, {"", "c"}>)`, "take([3, -4], head([3, -4]))", `row(<{"a", "b"}, {"", "c"}>, 0)`} {
		terms = append(terms, program(l, text))
	}
	tuple := []api.Value{value.OfTable([][]string{{"x", "y"}, {"z", ""}}), value.OfInts([]int64{5, 6}), value.OfTexts([]string{"q", "r"}), value.OfBits(1)}
	results := func() []api.Value {
		var values []api.Value
		for _, y := range terms {
			v, _ := eval.Run(l, y, tuple)
			values = append(values, v)
			o, _ := eval.Outcomes(l, y, [][]api.Value{tuple, tuple})
			trace, _ := eval.Trace(l, y, tuple)
			for _, one := range append(o, trace...) {
				values = append(values, one.Value)
			}
		}
		return values
	}
	want := results()
	for i := range want {
		got := results()
		spoil(got[i])
		for k := range want {
			if k != i && !value.Equal(got[k], want[k]) {
				t.Fatalf("the results %d and %d share memory", i, k)
			}
		}
		for k, v := range results() {
			if !value.Equal(v, want[k]) {
				t.Fatalf("the result %d shares memory with an argument", i)
			}
		}
	}
	if clean := mixture(); !value.Equal(clean.Rules[4].Const, l.Rules[4].Const) || !value.Equal(tuple[0], value.OfTable([][]string{{"x", "y"}, {"z", ""}})) {
		t.Error("the arguments are changed")
	}
}
