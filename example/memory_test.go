package example_test

import (
	"slices"
	"testing"

	"synthesis/api"
	"synthesis/example"
	"synthesis/value"
)

// spoil overwrites the memory behind values.
func spoil(values []api.Value) {
	all := values[:cap(values)]
	for i := range all {
		spoil(all[i].Items)
		all[i] = value.OfInt(-77)
	}
}

// collections returns examples with nested values, all in memory of their own.
func collections() []api.Example {
	table := func() api.Value { return value.OfTable([][]string{{"a", "b"}, {"c", "d"}}) }
	return []api.Example{of(table(), table(), value.OfInts([]int64{1, 2})), of(value.OfTexts([]string{"x"}), table()), of(table(), table(), value.OfInts([]int64{1, 2})), of(table())}
}

// DOC.md, rule 5: results share no memory with arguments or with each other, and arguments stay as they are.
func TestMemory(t *testing.T) {
	// The same memory stands in several places of the argument, but not of the result.
	shared := collections()
	shared[1].Inputs[0] = shared[0].Output
	shared[3].Output = shared[0].Output
	want := example.Unique(shared)
	for i := range want {
		got := example.Unique(shared)
		spoil([]api.Value{got[i].Output})
		for k := range want {
			if !slices.EqualFunc(got[k].Inputs, want[k].Inputs, value.Equal) || k != i && !value.Equal(got[k].Output, want[k].Output) {
				t.Errorf("spoiling the output %d changes the example %d", i, k)
			}
		}
		got = example.Unique(shared)
		spoil(got[i].Inputs)
		for k := range want {
			if !value.Equal(got[k].Output, want[k].Output) || k != i && !slices.EqualFunc(got[k].Inputs, want[k].Inputs, value.Equal) {
				t.Errorf("spoiling the inputs %d changes the example %d", i, k)
			}
		}
		if !slices.EqualFunc(example.Unique(shared), want, equal) {
			t.Fatalf("the result %d shares memory with the argument", i)
		}
	}
	list := collections()
	example.Conflicts(list)
	example.Print(list)
	example.Check(sums(), list)
	if !slices.EqualFunc(list, collections(), equal) {
		t.Error("an argument is changed")
	}
}
