package algebra_test

import (
	"testing"

	"synthesis/algebra"
	"synthesis/api"
	"synthesis/spacetest"
)

// DOC.md, rule 5: results share no memory with arguments or with each other, and arguments stay as they are.
func TestMemory(t *testing.T) {
	var d spacetest.Dice
	isUsed := map[any]bool{}
	check := func(name string) func(s api.Space, e api.Errno) {
		return func(s api.Space, e api.Errno) {
			t.Helper()
			for _, cell := range spacetest.Cells(s) {
				if isUsed[cell] {
					t.Fatalf("the result of %s shares memory", name)
				}
				isUsed[cell] = true
			}
		}
	}
	for range 60 {
		s, u := rules.Random(&d, 12), rules.Random(&d, 9)
		beforeS, beforeU := spacetest.Copied(s), spacetest.Copied(u)
		check("no function")(s, api.OK)
		check("no function")(u, api.OK)
		for range 2 {
			check("Union")(algebra.Union(s, u))
			check("Intersect")(algebra.Intersect(s, u))
			check("Minus")(algebra.Minus(s, u))
			check("Limit")(algebra.Limit(s, 2))
			check("Limit")(algebra.Limit(s, api.MaxSize))
			check("Using")(algebra.Using(s, 1, false))
			check("Using")(algebra.Using(s, 1, true))
		}
		if !spacetest.Equal(s, beforeS) || !spacetest.Equal(u, beforeU) {
			t.Fatal("an argument is changed")
		}
	}
}
