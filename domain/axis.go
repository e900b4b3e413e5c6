package domain

import (
	"slices"

	"synthesis/api"
	"synthesis/value"
)

// checkAxis checks that the values of an axis are valid, of the type t, and all different.
func checkAxis(axis []api.Value, t int) api.Errno {
	count, e := countFitting(axis, t)
	// A repetition among the values that fit stands before the first one that does not.
	if hasRepetition(axis[:count]) {
		return api.ErrTwice
	}
	return e
}

// countFitting returns the number of values before the first one that is not valid or not of the type t, and the error of that one.
func countFitting(axis []api.Value, t int) (int, api.Errno) {
	for i, v := range axis {
		if e := value.Check(v); e != api.OK {
			return i, e
		}
		if v.Type != t {
			return i, api.ErrType
		}
	}
	return len(axis), api.OK
}

func hasRepetition(values []api.Value) bool {
	sorted := slices.Clone(values)
	slices.SortFunc(sorted, value.Compare)
	for i := 1; i < len(sorted); i++ {
		if value.Equal(sorted[i-1], sorted[i]) {
			return true
		}
	}
	return false
}

// clone returns a copy of v that shares no memory with it.
func clone(v api.Value) api.Value {
	v.Items = slices.Clone(v.Items)
	for i, item := range v.Items {
		v.Items[i] = clone(item)
	}
	return v
}
