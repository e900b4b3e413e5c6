package bitvec

import (
	"slices"
	"testing"
)

// solveCases are the operations with the bit vectors or the distances that may be known.
func solveCases() []operationCase {
	not := operationCase{"bnot", nil, func(x, _ int) int { return 255 - x }}
	return append(append(binaryCases(), shiftCases()...), not)
}

func knownOperands(name string) []int {
	switch name {
	case "bleft", "bright", "barith":
		return distances
	case "bnot":
		return append([]int{0, 255}, strangers...)
	}
	return []int{0, 1, 2, 3, 6, 16, 85, 127, 128, 129, 170, 254, 255}
}

// P3.4
func TestSolve(t *testing.T) {
	for _, x := range solveCases() {
		for _, known := range knownOperands(x.name) {
			want := make([][]int, 256)
			for a := range 256 {
				result := x.want(a, known)
				want[result] = append(want[result], a)
			}
			for result := range 256 {
				if got := Solve(x.name, result, known); !slices.Equal(got, want[result]) {
					t.Fatalf("Solve(%q, %d, %d) is %v, not %v", x.name, result, known, got, want[result])
				}
			}
		}
	}
}

// P3.4: what has no solutions.
func TestSolveNothing(t *testing.T) {
	for _, name := range []string{"", "and", "not", "ones", "eqbits", "Band", "BAND", "band ", " band", "b", "badd\x00", "add"} {
		for _, result := range []int{0, 1, 255} {
			if l := Solve(name, result, 0); len(l) != 0 {
				t.Errorf("Solve(%q, %d, 0) is %v", name, result, l)
			}
		}
	}
	for _, x := range solveCases() {
		for _, s := range strangers {
			if l := Solve(x.name, s, 1); len(l) != 0 {
				t.Errorf("Solve(%q, %d, 1) is %v", x.name, s, l)
			}
		}
	}
	for _, x := range binaryCases() {
		for _, s := range strangers {
			if l := Solve(x.name, 0, s); len(l) != 0 {
				t.Errorf("Solve(%q, 0, %d) is %v", x.name, s, l)
			}
		}
	}
}

// P3.5
func TestSolveHasOneElement(t *testing.T) {
	for _, name := range []string{"badd", "bsub", "bxor", "bnot"} {
		for result := range 256 {
			for known := range 256 {
				if l := Solve(name, result, known); len(l) != 1 {
					t.Fatalf("Solve(%q, %d, %d) is %v", name, result, known, l)
				}
			}
		}
	}
}

func TestSolveGivesNewMemory(t *testing.T) {
	first := Solve("bmul", 4, 2)
	first[0] = 77
	if second := Solve("bmul", 4, 2); !slices.Equal(second, []int{2, 130}) {
		t.Error(second)
	}
}
