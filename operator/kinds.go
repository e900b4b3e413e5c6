package operator

import (
	"synthesis/api"
	"synthesis/value"
)

// kind connects a type of values with a type of Go. The functions that define the operators are written for Go's types.
type kind[G any] struct {
	number int
	// read is called for valid values of the type alone.
	read  func(api.Value) G
	write func(G) api.Value
}

// outcome returns the value of a result of Go's type, or the error.
func (k kind[G]) outcome(result G, e api.Errno) (api.Value, api.Errno) {
	if e != api.OK {
		return api.Value{}, e
	}
	return k.write(result), api.OK
}

func boolKind() kind[bool] {
	return kind[bool]{api.Bool, func(v api.Value) bool { return v.Num == 1 }, value.OfBool}
}

func numberKind() kind[int64] {
	return kind[int64]{api.Int, func(v api.Value) int64 { return v.Num }, value.OfInt}
}

// indexKind is for integers that a function takes or returns as int: indices, counts and distances.
func indexKind() kind[int] {
	return kind[int]{api.Int, smallNumber, func(n int) api.Value { return value.OfInt(int64(n)) }}
}

func bitsKind() kind[int] {
	return kind[int]{api.Bits, smallNumber, func(n int) api.Value { return value.OfBits(int64(n)) }}
}

func smallNumber(v api.Value) int { return int(v.Num) }

func textKind() kind[string] {
	return kind[string]{api.Text, content, value.OfText}
}

func patternKind() kind[string] {
	return kind[string]{api.Pattern, content, value.OfPattern}
}

func content(v api.Value) string { return v.Text }

func intsKind() kind[[]int64] {
	return kind[[]int64]{api.Ints, known(value.Ints), value.OfInts}
}

func textsKind() kind[[]string] {
	return kind[[]string]{api.Texts, known(value.Texts), value.OfTexts}
}

func tableKind() kind[[][]string] {
	return kind[[][]string]{api.Table, known(value.Rows), value.OfTable}
}

// known returns a reader without its second result, which is true for valid values of the type.
func known[G any](read func(api.Value) (G, bool)) func(api.Value) G {
	return func(v api.Value) G {
		g, _ := read(v)
		return g
	}
}
