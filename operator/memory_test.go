package operator_test

import (
	"testing"

	"synthesis/api"
	"synthesis/operator"
	"synthesis/value"
)

// deepCopy returns a copy of a value that shares no memory with it.
func deepCopy(v api.Value) api.Value {
	items := v.Items
	v.Items = nil
	for _, item := range items {
		v.Items = append(v.Items, deepCopy(item))
	}
	return v
}

// spoil overwrites the elements of a value, and the memory behind them.
func spoil(v api.Value) {
	for _, item := range v.Items {
		spoil(item)
	}
	all := v.Items[:cap(v.Items)]
	for i := range all {
		all[i] = api.Value{Type: -1}
	}
}

// sharesRows reports whether spoiling one element of v changes a later one.
func sharesRows(v api.Value) bool {
	before := deepCopy(v)
	for i := range v.Items {
		spoil(v.Items[i])
		for k := i + 1; k < len(v.Items); k++ {
			if !value.Equal(v.Items[k], before.Items[k]) {
				return true
			}
		}
	}
	return false
}

// DOC.md, rule 5: the arguments stay as they are, and results share no memory with them.
func TestApplyMemory(t *testing.T) {
	for _, o := range entries() {
		tuples(o.Args, func(args []api.Value) {
			before := deepCopy(api.Value{Items: args})
			got, _ := operator.Apply(o.Name, args)
			if !value.Equal(before, api.Value{Items: args}) {
				t.Fatalf("%s changes %v", o.Name, before.Items)
			}
			want := deepCopy(got)
			again, _ := operator.Apply(o.Name, args)
			spoil(again)
			if !value.Equal(got, want) || !value.Equal(before, api.Value{Items: args}) {
				t.Fatalf("%s %v: the result shares memory", o.Name, before.Items)
			}
			if sharesRows(got) {
				t.Fatalf("%s %v: the rows of the result share memory", o.Name, before.Items)
			}
		})
	}
}
