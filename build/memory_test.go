package build_test

import (
	"slices"
	"testing"

	"synthesis/api"
	"synthesis/build"
	"synthesis/grammar"
	"synthesis/spacetest"
	"synthesis/statetest"
	"synthesis/value"
)

// DOC.md, rule 5: results share no memory with arguments or with each other, and arguments stay as they are.
func TestMemory(t *testing.T) {
	isUsed := map[any]bool{}
	check := func(name string, s api.Space, e api.Errno) {
		t.Helper()
		if e != api.OK {
			t.Fatal(name, e)
		}
		for _, cell := range spacetest.Cells(s) {
			if isUsed[cell] {
				t.Fatalf("the result of %s shares memory", name)
			}
			isUsed[cell] = true
		}
	}
	for n, x := range statetest.Families() {
		for _, r := range x.Language.Rules {
			for i := range r.Args {
				isUsed[&r.Args[i]] = true
			}
		}
		for range 2 {
			s, e := build.Space(x.Language, nil, x.Most-1)
			check("Space", s, e)
			for _, c := range statetest.ClassesOf(x.Language, x.Tuples[:1], 3) {
				if list, isDefined := c.Examples(x.Tuples[:1]); isDefined {
					s, e := build.Space(x.Language, list, x.Most-1)
					check("Space", s, e)
				}
				s, e := build.Outcome(x.Language, x.Tuples[0], c.Outcomes[0], x.Most-1)
				check("Outcome", s, e)
			}
			build.States(x.Language, x.Tuples, x.Most-1)
		}
		same := statetest.Families()[n]
		areEqual := func(a, b []api.Value) bool { return slices.EqualFunc(a, b, value.Equal) }
		if !grammar.Same(x.Language, same.Language) || !slices.EqualFunc(x.Tuples, same.Tuples, areEqual) {
			t.Errorf("%s: an argument is changed", x.Language.Name)
		}
	}
}
