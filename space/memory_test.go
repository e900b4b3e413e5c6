package space_test

import (
	"slices"
	"testing"

	"synthesis/api"
	"synthesis/grammar"
	"synthesis/space"
)

// spaceCells returns the addresses of all elements of slices behind a version space, up to their capacities.
func spaceCells(s api.Space) []any {
	found := append(indexCells(s.Roots), nodeCells(s.Nodes)...)
	return found
}

func indexCells(list []int) []any {
	var found []any
	all := list[:cap(list)]
	for i := range all {
		found = append(found, &all[i])
	}
	return found
}

func nodeCells(list []api.Node) []any {
	var found []any
	all := list[:cap(list)]
	for i := range all {
		found = append(found, &all[i])
		options := all[i].Options[:cap(all[i].Options)]
		for k := range options {
			found = append(append(found, &options[k]), indexCells(options[k].Args)...)
		}
	}
	return found
}

func termCells(list []api.Term) []any {
	var found []any
	all := list[:cap(list)]
	for i := range all {
		found = append(append(found, &all[i]), termCells(all[i].Args)...)
	}
	return found
}

// DOC.md, rule 5: results share no memory with arguments or with each other, and arguments stay as they are.
func TestMemory(t *testing.T) {
	isUsed := map[any]bool{}
	check := func(name string, found []any) {
		t.Helper()
		for _, cell := range found {
			if isUsed[cell] {
				t.Fatalf("the result of %s shares memory", name)
			}
			isUsed[cell] = true
		}
	}
	l, same := choices(), choices()
	list := upTo(l, 0, 3)
	before := slices.Clone(list)
	for _, cell := range termCells(list) {
		isUsed[cell] = true
	}
	var d dice
	for range 20 {
		s := randomSpace(&d, l, 14)
		old := copied(s)
		check("no function", spaceCells(s))
		for range 2 {
			x, _ := space.Trim(s)
			check("Trim", spaceCells(x))
			y, _ := space.Terms(s)
			check("Terms", termCells(y))
			z, _ := space.Of(l, list)
			check("Of", spaceCells(z))
			w, _ := space.All(l, 0, 5)
			check("All", spaceCells(w))
			space.Check(l, s)
			space.Contains(s, list[3])
			space.Empty(s)
		}
		if !equalSpaces(s, old) {
			t.Fatal("an argument is changed")
		}
	}
	if !grammar.Same(l, same) || !equalTerms(list, before) {
		t.Error("an argument is changed")
	}
}
