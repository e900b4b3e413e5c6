package space_test

import (
	"slices"
	"testing"

	"synthesis/grammar"
	"synthesis/space"
	"synthesis/spacetest"
)

// DOC.md, rule 5: results share no memory with arguments or with each other, and arguments stay as they are.
func TestMemory(t *testing.T) {
	isUsed := map[any]bool{}
	check := func(name string, found []any) {
		t.Helper()
		for _, cell := range found {
			if isUsed[cell] {
				t.Fatalf("the result of %s shares memory", name)
			}
			isUsed[cell] = true
		}
	}
	l, same := choices(), choices()
	list := upTo(l, 0, 3)
	before := slices.Clone(list)
	for _, cell := range spacetest.TermCells(list) {
		isUsed[cell] = true
	}
	var d spacetest.Dice
	for range 20 {
		s := spacetest.RulesOf(l).Random(&d, 14)
		old := spacetest.Copied(s)
		check("no function", spacetest.Cells(s))
		for range 2 {
			x, _ := space.Trim(s)
			check("Trim", spacetest.Cells(x))
			y, _ := space.Terms(s)
			check("Terms", spacetest.TermCells(y))
			z, _ := space.Of(l, list)
			check("Of", spacetest.Cells(z))
			w, _ := space.All(l, 0, 5)
			check("All", spacetest.Cells(w))
			space.Check(l, s)
			space.Contains(s, list[3])
			space.Empty(s)
		}
		if !spacetest.Equal(s, old) {
			t.Fatal("an argument is changed")
		}
	}
	if !grammar.Same(l, same) || !equalTerms(list, before) {
		t.Error("an argument is changed")
	}
}
