package example_test

import (
	"slices"

	"synthesis/api"
	"synthesis/notation"
	"synthesis/value"
)

// language returns the language with this text.
func language(text string) api.Language {
	l, _, e := notation.ParseLanguage(text)
	if e != api.OK {
		panic(text)
	}
	return l
}

// program returns the term of the start symbol with this text.
func program(l api.Language, text string) api.Term {
	t, _, e := notation.Parse(l, 0, text)
	if e != api.OK {
		panic(text)
	}
	return t
}

// sums returns a language with a second symbol, which has another type.
func sums() api.Language {
	return language("language sums\ninputs int\nsymbol S int\nsymbol T text\nrule S = in0\nrule S = 1000000\nrule S = add(S, S)\nrule S = neg(S)\nrule T = show(S)\n")
}

// words returns a language with two inputs.
func words() api.Language {
	return language("language words\ninputs text int\nsymbol T text\nsymbol I int\nrule T = in0\nrule I = in1\nrule T = word(T, I)\n")
}

// constants returns a language without inputs.
func constants() api.Language {
	return language("language constants\ninputs\nsymbol S int\nrule S = 5\nrule S = neg(S)\n")
}

// number returns the example with one input and an output that are integers.
func number(in, out int64) api.Example {
	return api.Example{Inputs: []api.Value{value.OfInt(in)}, Output: value.OfInt(out)}
}

// of returns the example with an output and inputs.
func of(output api.Value, inputs ...api.Value) api.Example {
	return api.Example{Inputs: inputs, Output: output}
}

// values returns values of all types that are all different, but have the same number, text or elements, or look alike. Many of them are not valid.
func values() []api.Value {
	one, a, none := value.OfInt(1), value.OfText("a"), api.Value{}
	return []api.Value{
		none, one, a, value.OfInt(-1), value.OfInt(11), value.OfBool(true), value.OfBits(1), value.OfPattern("a"), value.OfText("1"), value.OfText(""), value.OfText("a "),
		{Type: 1 << 40, Num: 1}, {Type: -1}, {Type: api.Int, Num: -1 << 63}, {Type: api.Int, Num: 1, Text: "a"}, {Type: api.Int, Text: "1"},
		value.OfText("\n"), value.OfText("\x00"), value.OfText("\xff\xfe"), value.OfText("0 0 0 0 "),
		value.OfInts(nil), value.OfTexts(nil), value.OfTable(nil), value.OfTable([][]string{nil}), value.OfTable([][]string{nil, nil}),
		value.OfInts([]int64{1}), value.OfInts([]int64{1, 1}), value.OfInts([]int64{11}), value.OfTexts([]string{"a"}), value.OfTexts([]string{"a", ""}), value.OfTexts([]string{"", "a"}), value.OfTexts([]string{"a\", \"a"}), value.OfTexts([]string{"a", "a"}),
		value.OfTable([][]string{{"a", "a"}}), value.OfTable([][]string{{"a"}, {"a"}}), value.OfTable([][]string{{"aa"}}),
		{Items: []api.Value{none}}, {Items: []api.Value{none, none}}, {Items: []api.Value{{Items: []api.Value{none}}}},
		{Type: 1, Num: 11}, {Type: 11, Num: 1}, {Type: 1, Num: -11}, value.OfText("1 3 0 "), {Type: api.Text, Items: []api.Value{value.OfText("")}}, value.OfText("0 1 3 0 0 "),
		{Type: api.Ints, Items: []api.Value{one, value.OfInts([]int64{1})}}, {Type: api.Ints, Items: []api.Value{value.OfInts([]int64{1}), one}},
	}
}

// equal follows the definition of equal examples.
func equal(a, b api.Example) bool {
	return slices.EqualFunc(a.Inputs, b.Inputs, value.Equal) && value.Equal(a.Output, b.Output)
}

// contradict follows the definition of examples that contradict each other.
func contradict(a, b api.Example) bool {
	return slices.EqualFunc(a.Inputs, b.Inputs, value.Equal) && !value.Equal(a.Output, b.Output)
}

// lists returns lists of examples with few and many inputs, equal ones, and ones that contradict each other.
func lists() [][]api.Example {
	all := values()
	var one, tuples, mixed []api.Example
	for i, v := range all {
		one = append(one, of(v), of(all[0], v))
		for _, w := range all[:i+1] {
			tuples = append(tuples, of(all[1], v, w), of(all[1], w, v), of(v, w))
		}
	}
	for i := range 400 {
		mixed = append(mixed, of(all[i%7], all[:i*i%5]...))
	}
	return [][]api.Example{
		nil, {}, {{}}, {{}, {}}, {number(1, 2), number(1, 3), number(1, 2)}, {number(1, 2), number(2, 1)},
		{of(all[1], all[1], all[2]), of(all[2], all[2], all[1]), of(all[3], all[1], all[2]), of(all[1], all[1]), of(all[4], all[2], all[1]), of(all[1], all[1], all[2])},
		// The number of inputs counts, also where everything else is the same.
		{of(all[1], all[0], all[0]), of(all[2], all[0]), of(all[3]), of(all[4], all[0], all[0], all[0])},
		// What is missing in a slice does not count.
		{{Inputs: []api.Value{}, Output: value.OfInt(1)}, {Output: value.OfInt(1)}, {Inputs: []api.Value{{Items: []api.Value{}}}}, {Inputs: []api.Value{{}}}, {Inputs: []api.Value{{}}, Output: api.Value{Items: []api.Value{}}}},
		one, tuples, mixed, append(slices.Clone(mixed), one...),
	}
}
