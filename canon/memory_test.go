package canon_test

import (
	"testing"

	"synthesis/api"
	"synthesis/canon"
)

// cells returns the addresses of all elements of slices behind a version space, up to their capacities.
func cells(s api.Space) []any {
	found := indexCells(s.Roots)
	nodes := s.Nodes[:cap(s.Nodes)]
	for i := range nodes {
		found = append(found, &nodes[i])
		options := nodes[i].Options[:cap(nodes[i].Options)]
		for k := range options {
			found = append(append(found, &options[k]), indexCells(options[k].Args)...)
		}
	}
	return found
}

func indexCells(list []int) []any {
	var found []any
	all := list[:cap(list)]
	for i := range all {
		found = append(found, &all[i])
	}
	return found
}

// DOC.md, rule 5: results share no memory with arguments or with each other, and arguments stay as they are.
func TestMemory(t *testing.T) {
	var d dice
	isUsed := map[any]bool{}
	check := func(name string, s api.Space) {
		t.Helper()
		for _, cell := range cells(s) {
			if isUsed[cell] {
				t.Fatalf("the result of %s shares memory", name)
			}
			isUsed[cell] = true
		}
	}
	for range 60 {
		s, u := randomSpace(&d, 12), randomSpace(&d, 6)
		beforeS, beforeU := copied(s), copied(u)
		check("no function", s)
		check("no function", u)
		for range 2 {
			det, _ := canon.Deterministic(s)
			check("Deterministic", det)
			least, _ := canon.Minimal(s)
			check("Minimal", least)
			canon.Same(s, u)
			canon.Subset(s, u)
		}
		if !equalSpaces(s, beforeS) || !equalSpaces(u, beforeU) {
			t.Fatal("an argument is changed")
		}
	}
}
