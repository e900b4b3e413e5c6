package enumerate_test

import (
	"testing"

	"synthesis/api"
	"synthesis/enumerate"
	"synthesis/grammar"
)

// cells returns the addresses of all elements of slices behind terms, up to their capacities.
func cells(list []api.Term) []any {
	var found []any
	all := list[:cap(list)]
	for i := range all {
		found = append(append(found, &all[i]), cells(all[i].Args)...)
	}
	return found
}

// DOC.md, rule 5: results share no memory with arguments or with each other, and arguments stay as they are.
func TestMemory(t *testing.T) {
	l := choices()
	x := program(l, 0, "iftext(less(len(in0), in1), in0, word(in0, in1))")
	before := write(x)
	isUsed := map[any]bool{}
	for _, cell := range cells([]api.Term{x}) {
		isUsed[cell] = true
	}
	check := func(name string, list []api.Term) {
		for _, cell := range cells(list) {
			if isUsed[cell] {
				t.Fatalf("the result of %s shares memory", name)
			}
			isUsed[cell] = true
		}
	}
	for range 2 {
		terms, _ := enumerate.Terms(l, 0, 5)
		check("Terms", terms)
		upTo, _ := enumerate.UpTo(l, 0, 5)
		check("UpTo", upTo)
		satisfying, _ := enumerate.Satisfying(l, nil, 5)
		check("Satisfying", satisfying)
		first, _ := enumerate.First(l, 0, 9)
		check("First", first.Args)
		next, _, _ := enumerate.Next(l, 0, x)
		check("Next", next.Args)
		if len(terms) < 2 || len(upTo) < 2 || len(satisfying) < 2 || len(first.Args) == 0 || len(next.Args) == 0 {
			t.Fatal(len(terms), len(upTo), len(satisfying), len(first.Args), len(next.Args))
		}
	}
	if write(x) != before || !grammar.Same(l, choices()) {
		t.Error("an argument is changed")
	}
}
