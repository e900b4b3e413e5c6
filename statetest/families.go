package statetest

import (
	"synthesis/api"
	"synthesis/value"
)

// A Family is a language, tuples that fit it, and a bound up to which there are not too many terms.
type Family struct {
	Language api.Language
	Tuples   [][]api.Value
	Most     int
}

// Families returns all languages of this package, and the included ones.
func Families() []Family { return append(Own(), IncludedFamilies()...) }

// Own returns the languages of this package, which have few terms.
func Own() []Family {
	var mixed [][]api.Value
	for _, table := range [][][]string{nil, {{"x", "y"}}, {{"a"}, {"b"}}} {
		mixed = append(mixed,
			[]api.Value{value.OfTable(table), value.OfInts([]int64{1, 0}), value.OfTexts(nil), value.OfBits(0)},
			[]api.Value{value.OfTable(table), value.OfInts(nil), value.OfTexts([]string{"a"}), value.OfBits(254)})
	}
	texts := [][]api.Value{
		{value.OfText("ada lovelace"), value.OfInt(1)}, {value.OfText(""), value.OfInt(0)}, {value.OfText("a b"), value.OfInt(-3)}, {value.OfText("a b"), value.OfInt(-3)}, {value.OfText("a b c"), value.OfInt(2)},
	}
	var bools [][]api.Value
	for n := range 4 {
		bools = append(bools, []api.Value{value.OfBool(n < 2), value.OfBool(n%2 == 0)})
	}
	return []Family{
		{Sums(), Numbers(1, 0, 1, -3), 9},
		{Backwards(), Numbers(2, 0, 5), 8},
		{Overflow(), Numbers(0, 1, -1, 2, 500000, 1000000), 8},
		{Choices(), texts, 7},
		{Mixture(), mixed, 7},
		{Truths(), bools, 8},
		{Constants(), [][]api.Value{{}, nil}, 9},
		{Empty(), Numbers(1, 2), 5},
	}
}

// IncludedFamilies returns the included languages.
func IncludedFamilies() []Family {
	words := [][]api.Value{{value.OfText("ada lovelace")}, {value.OfText("")}, {value.OfText("x, y")}}
	return []Family{
		{Included("strings"), words, 5},
		{Included("patterns"), words, 6},
		{Included("lists"), [][]api.Value{{value.OfInts([]int64{3, 1, 2})}, {value.OfInts(nil)}}, 4},
		{Included("vectors"), [][]api.Value{{value.OfBits(3)}, {value.OfBits(128)}}, 4},
		{Included("tables"), [][]api.Value{{value.OfTable([][]string{{"a", "b"}, {"", "c"}})}}, 5},
	}
}

// Numbers returns tuples of one integer.
func Numbers(list ...int64) [][]api.Value {
	var tuples [][]api.Value
	for _, n := range list {
		tuples = append(tuples, []api.Value{value.OfInt(n)})
	}
	return tuples
}
