package domain

import (
	"math/bits"

	"synthesis/api"
	"synthesis/value"
)

// firstValues returns the n first values of a type, or all of them if there are fewer.
func firstValues(t, n int) []api.Value {
	if t == api.Bool {
		n = min(n, 2)
	}
	var values []api.Value
	for i := range n {
		values = append(values, firstValue(t, i))
	}
	return values
}

// firstValue returns value number i, from 0, among the first values of a type.
func firstValue(t, i int) api.Value {
	switch t {
	case api.Bool:
		return value.OfBool(i == 1)
	case api.Bits:
		return value.OfBits(int64(i))
	case api.Int:
		return value.OfInt(alternating(i))
	case api.Text:
		return value.OfText(letters(i))
	case api.Pattern:
		// A pattern is not empty, so that the first text is left out.
		return value.OfPattern(letters(i + 1))
	case api.Ints:
		return value.OfInts(mapped(letters(i), func(letter byte) int64 { return int64(letter - 'a') }))
	case api.Texts:
		return value.OfTexts(mapped(letters(i), cell))
	}
	return value.OfTable(mapped(letters(i), func(letter byte) []string { return []string{cell(letter)} }))
}

// alternating returns number i of the sequence 0, 1, -1, 2, -2, and so on.
func alternating(i int) int64 {
	if i%2 == 0 {
		return int64(-i / 2)
	}
	return int64(i+1) / 2
}

// letters returns text number i of the letters a and b, ordered by length and then byte by byte.
func letters(i int) string {
	// The binary digits of i + 1 without the first one run through all texts in this order.
	number := i + 1
	text := make([]byte, bits.Len(uint(number))-1)
	for k := len(text) - 1; k >= 0; k-- {
		text[k] = 'a' + byte(number%2)
		number /= 2
	}
	return string(text)
}

// cell returns the text that stands for a letter in a list of texts or in a table.
func cell(letter byte) string {
	if letter == 'a' {
		return ""
	}
	return "a"
}

// mapped returns what the letters of a text become, in order.
func mapped[E any](text string, become func(letter byte) E) []E {
	var elements []E
	for i := range len(text) {
		elements = append(elements, become(text[i]))
	}
	return elements
}
