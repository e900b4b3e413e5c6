package observe_test

import (
	"slices"
	"testing"

	"synthesis/api"
	"synthesis/grammar"
	"synthesis/observe"
	"synthesis/term"
	"synthesis/value"
)

// DOC.md, rule 5: results share no memory with each other, and arguments stay as they are.
func TestMemory(t *testing.T) {
	x := families()[4]
	before := families()[4]
	list, same := small(x.l, 3), small(x.l, 3)
	isUsed := map[*int]bool{}
	check := func(name string, cells []int) {
		cells = cells[:cap(cells)]
		for i := range cells {
			if isUsed[&cells[i]] {
				t.Fatalf("the result of %s shares memory", name)
			}
			isUsed[&cells[i]] = true
		}
	}
	for range 2 {
		classes, e := observe.Classes(x.l, list, x.tuples)
		if e != api.OK || len(classes) < 3 {
			t.Fatal(classes, e)
		}
		for _, class := range classes {
			check("Classes", class)
		}
		chosen, e := observe.Splits(x.l, list, x.tuples)
		if e != api.OK || len(chosen) == 0 {
			t.Fatal(chosen, e)
		}
		check("Splits", chosen)
		observe.Key(x.l, list[0], x.tuples)
		observe.Same(x.l, list[0], list[1], x.tuples)
		observe.Count(x.l, 0, 4, x.tuples)
	}
	areEqual := func(a, b []api.Value) bool { return slices.EqualFunc(a, b, value.Equal) }
	isTheSame := func(a, b api.Term) bool { return term.Compare(a, b) == 0 }
	if !grammar.Same(x.l, before.l) || !slices.EqualFunc(x.tuples, before.tuples, areEqual) || !slices.EqualFunc(list, same, isTheSame) {
		t.Error("an argument is changed")
	}
}
