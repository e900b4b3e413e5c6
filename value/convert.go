package value

import "synthesis/api"

// OfBool returns a boolean.
func OfBool(b bool) api.Value {
	v := api.Value{Type: api.Bool}
	if b {
		v.Num = 1
	}
	return v
}

// OfInt returns an integer.
func OfInt(n int64) api.Value { return api.Value{Type: api.Int, Num: n} }

// OfText returns a text.
func OfText(s string) api.Value { return api.Value{Type: api.Text, Text: s} }

// OfBits returns a bit vector.
func OfBits(n int64) api.Value { return api.Value{Type: api.Bits, Num: n} }

// OfInts returns a list of integers.
func OfInts(l []int64) api.Value { return api.Value{Type: api.Ints, Items: mapEach(l, OfInt)} }

// OfTexts returns a list of texts.
func OfTexts(l []string) api.Value { return api.Value{Type: api.Texts, Items: mapEach(l, OfText)} }

// OfTable returns a table.
func OfTable(rows [][]string) api.Value {
	return api.Value{Type: api.Table, Items: mapEach(rows, OfTexts)}
}

// OfPattern returns a pattern.
func OfPattern(s string) api.Value { return api.Value{Type: api.Pattern, Text: s} }

// Ints returns the elements of a list of integers.
func Ints(v api.Value) ([]int64, bool) {
	if v.Type != api.Ints || Check(v) != api.OK {
		return nil, false
	}
	return mapEach(v.Items, num), true
}

// Texts returns the elements of a list of texts.
func Texts(v api.Value) ([]string, bool) {
	if v.Type != api.Texts || Check(v) != api.OK {
		return nil, false
	}
	return mapEach(v.Items, text), true
}

// Rows returns the cells of a table, row by row.
func Rows(v api.Value) ([][]string, bool) {
	if v.Type != api.Table || Check(v) != api.OK {
		return nil, false
	}
	return mapEach(v.Items, cells), true
}

func num(v api.Value) int64 { return v.Num }

func text(v api.Value) string { return v.Text }

func cells(row api.Value) []string { return mapEach(row.Items, text) }

// mapEach returns the results of f for the elements of l, in a list of its own.
func mapEach[A, B any](l []A, f func(A) B) []B {
	results := make([]B, len(l))
	for i, x := range l {
		results[i] = f(x)
	}
	return results
}
