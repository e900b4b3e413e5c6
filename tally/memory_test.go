package tally_test

import (
	"testing"

	"synthesis/api"
	"synthesis/spacetest"
	"synthesis/tally"
)

// DOC.md, rule 5: results share no memory with arguments or with each other, and arguments stay as they are.
func TestMemory(t *testing.T) {
	var d spacetest.Dice
	isUsed := map[any]bool{}
	check := func(name string, cells []any) {
		t.Helper()
		for _, cell := range cells {
			if isUsed[cell] {
				t.Fatalf("the result of %s shares memory", name)
			}
			isUsed[cell] = true
		}
	}
	for range 40 {
		s := rules.Random(&d, 12)
		before := spacetest.Copied(s)
		check("no function", spacetest.Cells(s))
		count, _ := tally.Count(s)
		for range 2 {
			for n := range min(count, 20) {
				x, _ := tally.Nth(s, n)
				check("Nth", spacetest.TermCells(x.Args))
				text := spacetest.Write(x)
				if i, e := tally.Index(s, x); i != n || e != api.OK || spacetest.Write(x) != text {
					t.Fatalf("Index of %v is %d, %d", x, i, e)
				}
			}
			sizes, _ := tally.Sizes(s)
			sizes = sizes[:cap(sizes)]
			for i := range sizes {
				check("Sizes", []any{&sizes[i]})
			}
			tally.Unambiguous(s)
		}
		if !spacetest.Equal(s, before) {
			t.Fatal("the argument is changed")
		}
	}
}
