package build_test

import (
	"testing"

	"synthesis/api"
	"synthesis/build"
	"synthesis/spacetest"
	"synthesis/statetest"
	"synthesis/tally"
	"synthesis/value"
)

// number returns the example with one input and an output that are integers.
func number(in, out int64) api.Example {
	return api.Example{Inputs: []api.Value{value.OfInt(in)}, Output: value.OfInt(out)}
}

// doubling returns the language of the document's examples.
func doubling() api.Language {
	return statetest.Language("language doubling\ninputs int\nsymbol S int\nrule S = in0\nrule S = add(S, S)\n")
}

// of returns the defined outcome with this value.
func of(v api.Value) api.Outcome { return api.Outcome{Value: v} }

func undefined() api.Outcome { return api.Outcome{Errno: api.ErrUndefined} }

// checkSpace checks that a result is the canonical version space of these programs.
func checkSpace(t *testing.T, l api.Language, s api.Space, e api.Errno, programs spacetest.Set) {
	t.Helper()
	if want := spacetest.RulesOf(l).Canonical(programs); e != api.OK || !spacetest.Equal(s, want) {
		t.Fatalf("%s: %v, %d, not %v", l.Name, s, e, want)
	}
}

// count returns the number of programs of a result of a function.
func count(t *testing.T, s api.Space, e api.Errno) int64 {
	t.Helper()
	n, f := tally.Count(s)
	if e != api.OK || f != api.OK {
		t.Fatal(e, f)
	}
	return n
}

// checkErrors checks that Space and Outcome, for examples and an outcome on the tuples of a language whose start symbol has integers, and States return this error, and no result with an error.
func checkErrors(t *testing.T, l api.Language, tuples [][]api.Value, most int, want api.Errno) {
	t.Helper()
	if n, e := build.States(l, tuples, most); e != want || e != api.OK && n != 0 {
		t.Errorf("States is %d, %d, not %d", n, e, want)
	}
	// An output that no program has makes no difference.
	for _, output := range []int64{1, 987654} {
		var list []api.Example
		for _, tuple := range tuples {
			list = append(list, api.Example{Inputs: tuple, Output: value.OfInt(output)})
		}
		if s, e := build.Space(l, list, most); e != want || e != api.OK && !spacetest.IsZero(s) {
			t.Errorf("Space is %v, %d, not %d", s, e, want)
		}
		if len(tuples) != 1 {
			continue
		}
		for _, o := range []api.Outcome{of(value.OfInt(output)), undefined()} {
			if s, e := build.Outcome(l, tuples[0], o, most); e != want || e != api.OK && !spacetest.IsZero(s) {
				t.Errorf("Outcome is %v, %d, not %d", s, e, want)
			}
		}
	}
}
