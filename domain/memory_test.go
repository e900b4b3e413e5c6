package domain_test

import (
	"testing"

	"synthesis/api"
	"synthesis/domain"
	"synthesis/value"
)

// lists returns an axis of values with elements.
func lists() []api.Value {
	return []api.Value{value.OfTable([][]string{{"a", "b"}, {"c", "d"}}), value.OfInts([]int64{1, 2}), value.OfTable([][]string{{"e"}})}
}

// DOC.md, rule 5: results share no memory with arguments or with each other, and arguments stay as they are.
func TestMemory(t *testing.T) {
	// The same memory stands in several places of the domain.
	shared := lists()
	d := of(shared, shared, append(lists(), shared[0]))
	var used [][]api.Value
	used = append(used, d.Axes...)
	all, _ := domain.All(d)
	again, _ := domain.All(d)
	used = append(append(used, all...), again...)
	for range 2 {
		tuple, _ := domain.At(d, 35)
		used = append(used, tuple)
		r, _ := domain.Restrict(d, 1, []bool{true, false, true})
		used = append(used, r.Axes...)
		s, _ := domain.Small([]int{api.Table, api.Table, api.Ints}, 8)
		used = append(used, s.Axes...)
	}
	// What is shared within the argument counts once.
	isUsed := map[*api.Value]bool{}
	for i, values := range used {
		for _, cell := range cells(values) {
			if isUsed[cell] && i >= len(d.Axes) {
				t.Fatalf("the result %d shares memory", i-len(d.Axes))
			}
			isUsed[cell] = true
		}
	}
	domain.Index(d, all[17])
	domain.Check(d, []int{api.Table, api.Table, api.Table})
	domain.Check(of(numbers(3, 2, 1)), []int{api.Int})
	if !sameDomain(d, of(lists(), lists(), append(lists(), lists()[0]))) {
		t.Error("an argument is changed")
	}
}

// DOC.md, rule 5: Check looks for repetitions in a copy.
func TestArguments(t *testing.T) {
	axis := numbers(3, 1, 2)
	if e := domain.Check(of(axis), []int{api.Int}); e != api.OK || !sameTuple(axis, numbers(3, 1, 2)) {
		t.Error(axis, e)
	}
}
