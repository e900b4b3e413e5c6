package canon_test

import (
	"testing"

	"synthesis/api"
	"synthesis/canon"
	"synthesis/spacetest"
)

// DOC.md, rule 5: results share no memory with arguments or with each other, and arguments stay as they are.
func TestMemory(t *testing.T) {
	var d spacetest.Dice
	isUsed := map[any]bool{}
	check := func(name string, s api.Space) {
		t.Helper()
		for _, cell := range spacetest.Cells(s) {
			if isUsed[cell] {
				t.Fatalf("the result of %s shares memory", name)
			}
			isUsed[cell] = true
		}
	}
	for range 60 {
		s, u := rules.Random(&d, 12), rules.Random(&d, 6)
		beforeS, beforeU := spacetest.Copied(s), spacetest.Copied(u)
		check("no function", s)
		check("no function", u)
		for range 2 {
			det, _ := canon.Deterministic(s)
			check("Deterministic", det)
			least, _ := canon.Minimal(s)
			check("Minimal", least)
			canon.Same(s, u)
			canon.Subset(s, u)
		}
		if !spacetest.Equal(s, beforeS) || !spacetest.Equal(u, beforeU) {
			t.Fatal("an argument is changed")
		}
	}
}
