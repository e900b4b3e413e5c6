// Package value is layer 1: values and their types. See shared/doc/01-value.md.
package value

import (
	"cmp"
	"slices"
	"strings"

	"synthesis/api"
)

// typeNames has the name of each type at the type's number. No type has the number 0.
var typeNames = [...]string{"", "bool", "int", "text", "bits", "ints", "texts", "table", "pattern"}

// Equal reports whether two values are equal in all fields (nil and empty lists are equal).
func Equal(a, b api.Value) bool { return Compare(a, b) == 0 }

// Compare returns -1, 0 or 1: a total order of all values.
func Compare(a, b api.Value) int {
	if c := cmp.Compare(a.Type, b.Type); c != 0 {
		return c
	}
	if c := cmp.Compare(a.Num, b.Num); c != 0 {
		return c
	}
	if c := strings.Compare(a.Text, b.Text); c != 0 {
		return c
	}
	return slices.CompareFunc(a.Items, b.Items, Compare)
}

// Size returns the number of values in v, v itself included.
func Size(v api.Value) int {
	size := 1
	for _, item := range v.Items {
		size += Size(item)
	}
	return size
}

// TypeName returns the name of a type.
func TypeName(t int) string {
	if !isType(t) {
		return ""
	}
	return typeNames[t]
}

// ParseType returns the type with a name.
func ParseType(s string) (int, bool) {
	for t, name := range typeNames {
		if isType(t) && name == s {
			return t, true
		}
	}
	return 0, false
}

func isType(t int) bool { return api.Bool <= t && t <= api.Pattern }

// Default returns the least valid value of a type.
func Default(t int) (api.Value, api.Errno) {
	if !isType(t) {
		return api.Value{}, api.ErrType
	}
	least := api.Value{Type: t}
	switch t {
	case api.Int:
		least.Num = -api.MaxInt
	case api.Pattern:
		// A pattern must not be empty, and the space is the least of the permitted bytes.
		least.Text = " "
	}
	return least, api.OK
}
