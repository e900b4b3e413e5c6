package deduce_test

import (
	"slices"
	"testing"

	"synthesis/api"
	"synthesis/deduce"
	"synthesis/spacetest"
	"synthesis/statetest"
	"synthesis/term"
	"synthesis/value"
)

// number returns the example with one input and an output that are integers.
func number(in, out int64) api.Example {
	return api.Example{Inputs: []api.Value{value.OfInt(in)}, Output: value.OfInt(out)}
}

// doubling returns the language of the document's examples.
func doubling() api.Language {
	return statetest.Language("language doubling\ninputs int\nsymbol S int\nrule S = in0\nrule S = add(S, S)\n")
}

// families returns the languages that the tests of these layers share, and some with all invertible operators.
func families() []statetest.Family { return append(statetest.Families(), inverting()...) }

// inverting returns languages that have a rule for each invertible operator.
func inverting() []statetest.Family {
	texts := func(list ...string) [][]api.Value {
		var tuples [][]api.Value
		for _, s := range list {
			tuples = append(tuples, []api.Value{value.OfText(s)})
		}
		return tuples
	}
	lists := [][]api.Value{{value.OfInts([]int64{1, -1})}, {value.OfInts([]int64{api.MaxInt, 1})}, {value.OfInts(nil)}}
	bools := [][]api.Value{{value.OfBool(true), value.OfBool(false)}, {value.OfBool(false), value.OfBool(false)}}
	bits := [][]api.Value{{value.OfBits(3)}, {value.OfBits(200)}}
	many := [][]api.Value{{value.OfTexts([]string{"b", "a"})}, {value.OfTexts(nil)}}
	return []statetest.Family{
		{Language: statetest.Language("language bools\ninputs bool bool\nsymbol B bool\nsymbol A bool\nrule B = in0\nrule B = and(A, B)\nrule A = or(B, A)\nrule B = not(A)\nrule A = in1\nrule A = not(B)\n"), Tuples: bools, Most: 7},
		{Language: statetest.Language("language texts\ninputs text\nsymbol T text\nsymbol I int\nrule T = concat(T, T)\nrule T = show(I)\nrule I = neg(I)\nrule I = read(T)\nrule T = in0\nrule I = 7\nrule T = upper(T)\nrule T = lower(T)\n"), Tuples: texts("aB", "7", "-12"), Most: 6},
		{Language: statetest.Language("language texts\ninputs text\nsymbol T text\nsymbol R text\nrule T = concat(R, T)\nrule R = trim(R)\nrule R = in0\nrule T = upper(R)\nrule R = concat(T, R)\n"), Tuples: texts("a b", "", " A"), Most: 7},
		{Language: statetest.Language("language lists\ninputs ints\nsymbol L ints\nrule L = append(L, L)\nrule L = in0\nrule L = reverse(L)\nrule L = running(L)\nrule L = []\n"), Tuples: lists, Most: 6},
		{Language: statetest.Language("language orders\ninputs texts\nsymbol X texts\nrule X = revtexts(X)\nrule X = in0\nrule X = {\"a\"}\n"), Tuples: many, Most: 8},
		{Language: statetest.Language("language bits\ninputs bits\nsymbol V bits\nrule V = in0\nrule V = 0x05\nrule V = badd(V, V)\nrule V = bmul(V, V)\nrule V = bnot(V)\nrule V = bsub(V, V)\n"), Tuples: bits, Most: 6},
		{Language: statetest.Language("language masks\ninputs bits\nsymbol V bits\nrule V = in0\nrule V = 0x05\nrule V = band(V, V)\nrule V = bor(V, V)\nrule V = bnot(V)\nrule V = bxor(V, V)\n"), Tuples: bits, Most: 6},
	}
}

// checkResults checks that Space, Find and Plan return what these programs are.
func checkResults(t *testing.T, l api.Language, list []api.Example, most int, programs spacetest.Set) {
	t.Helper()
	s, e := deduce.Space(l, list, most)
	if want := spacetest.RulesOf(l).Canonical(programs); e != api.OK || !spacetest.Equal(s, want) {
		t.Fatalf("%s, %v: Space is %v, %d, not %v", l.Name, list, s, e, want)
	}
	sorted := programs.Sorted()
	first, e := deduce.Find(l, list, most)
	if len(sorted) == 0 && (e != api.ErrUnreal || term.Compare(first, api.Term{}) != 0) {
		t.Fatalf("%s, %v: Find is %v, %d", l.Name, list, first, e)
	}
	if len(sorted) > 0 && (e != api.OK || term.Compare(first, sorted[0]) != 0) {
		t.Fatalf("%s, %v: Find is %v, %d, not %v", l.Name, list, first, e, sorted[0])
	}
	var roots []int
	for _, x := range sorted {
		roots = append(roots, x.Rule)
	}
	slices.Sort(roots)
	if plan, e := deduce.Plan(l, list, most); e != api.OK || !slices.Equal(plan, slices.Compact(roots)) {
		t.Fatalf("%s, %v: Plan is %v, %d, not %v", l.Name, list, plan, e, roots)
	}
}
