package spec_test

import (
	"slices"
	"strings"

	"synthesis/api"
	"synthesis/formula"
	"synthesis/notation"
	"synthesis/spec"
	"synthesis/value"
)

// language returns the language with this text.
func language(text string) api.Language {
	l, _, e := notation.ParseLanguage(text)
	if e != api.OK {
		panic(text)
	}
	return l
}

// program returns the term of the start symbol with this text.
func program(l api.Language, text string) api.Term {
	t, _, e := notation.Parse(l, 0, text)
	if e != api.OK {
		panic(text)
	}
	return t
}

// sums returns a language with a second symbol, which has another type.
func sums() api.Language {
	return language("language sums\ninputs int\nsymbol S int\nsymbol T text\nrule S = in0\nrule S = 1\nrule S = add(S, S)\nrule S = read(T)\nrule T = show(S)\nrule T = \"x\"\n")
}

// items returns a language with two inputs and partial operators.
func items() api.Language {
	return language("language items\ninputs ints int\nsymbol I int\nsymbol L ints\nrule I = in1\nrule I = element(L, I)\nrule I = head(L)\nrule L = in0\nrule L = drop(L, I)\n")
}

// constants returns a language without inputs.
func constants() api.Language {
	return language("language constants\ninputs\nsymbol S int\nrule S = 5\nrule S = neg(S)\n")
}

// parsed returns the formula with this text.
func parsed(text string) api.Formula {
	f, _, e := formula.Parse(text)
	if e != api.OK {
		panic(text)
	}
	return f
}

// number returns the example with one input and an output that are integers.
func number(in, out int64) api.Example {
	return api.Example{Inputs: []api.Value{value.OfInt(in)}, Output: value.OfInt(out)}
}

// of returns the example with an output and inputs.
func of(output api.Value, inputs ...api.Value) api.Example {
	return api.Example{Inputs: inputs, Output: output}
}

// numbers returns an axis of integers.
func numbers(list ...int64) []api.Value {
	var axis []api.Value
	for _, n := range list {
		axis = append(axis, value.OfInt(n))
	}
	return axis
}

// with returns a specification with a formula, axes and no examples.
func with(text string, axes ...[]api.Value) api.Spec {
	return api.Spec{Formula: parsed(text), Domain: api.Domain{Axes: axes}}
}

// and returns the specification with further examples.
func and(s api.Spec, list ...api.Example) api.Spec {
	s.Examples = slices.Concat(s.Examples, list)
	return s
}

// printed returns the text of a specification.
func printed(s api.Spec) string {
	text, e := spec.Print(s)
	if e != api.OK {
		panic(e)
	}
	return text
}

// nested returns a formula below as many negations as wanted.
func nested(levels int, f api.Formula) api.Formula {
	for range levels {
		f = api.Formula{Kind: api.FormNot, Subs: []api.Formula{f}}
	}
	return f
}

func sameTuple(a, b []api.Value) bool { return slices.EqualFunc(a, b, value.Equal) }

func sameSpec(a, b api.Spec) bool {
	return slices.EqualFunc(a.Examples, b.Examples, sameExample) && sameFormula(a.Formula, b.Formula) && slices.EqualFunc(a.Domain.Axes, b.Domain.Axes, sameTuple)
}

func sameExample(a, b api.Example) bool {
	return sameTuple(a.Inputs, b.Inputs) && value.Equal(a.Output, b.Output)
}

func sameFormula(a, b api.Formula) bool {
	return a.Kind == b.Kind && slices.EqualFunc(a.Subs, b.Subs, sameFormula) && sameOperand(a.Left, b.Left) && sameOperand(a.Right, b.Right)
}

func sameOperand(a, b api.Operand) bool {
	return a.Kind == b.Kind && a.Input == b.Input && a.Op == b.Op && value.Equal(a.Const, b.Const) && slices.EqualFunc(a.Subs, b.Subs, sameOperand)
}

// isZero reports whether nothing is in a specification.
func isZero(s api.Spec) bool { return sameSpec(s, api.Spec{}) }

// textCase is a specification and its text.
type textCase struct {
	s    api.Spec
	text string
}

// textCases returns specifications that have all kinds of lines, and values that look like lines.
func textCases() []textCase {
	table := value.OfTable([][]string{{"a", "b"}, {"c", ""}})
	bools := []api.Value{value.OfBool(true), value.OfBool(false)}
	line := value.OfText("formula true")
	return []textCase{
		{with("true"), "formula true\n"},
		{with("false", nil), "formula false\naxis\n"},
		{with("is(out)", numbers(1, 2, -3), []api.Value{}, numbers(0)), "formula is(out)\naxis 1, 2, -3\naxis\naxis 0\n"},
		{and(with("eq(out, add(in0, in0))", numbers(0, 1, 2)), number(1, 2)), "example 1 -> 2\nformula eq(out, add(in0, in0))\naxis 0, 1, 2\n"},
		// What Check forbids: repetitions, contradictions, and types that do not fit.
		{and(with("or()", bools), of(value.OfInt(5)), of(value.OfInt(6)), of(value.OfInt(5)), of(value.OfInt(5), numbers(1, 2)...)), "example -> 5\nexample -> 6\nexample -> 5\nexample 1, 2 -> 5\nformula or()\naxis true, false\n"},
		{and(with("and(true, not(lt(in3, \"\\\"\")))", []api.Value{table, table}), of(value.OfInts([]int64{1, 2}), value.OfPattern("a"), value.OfBits(15)), of(value.OfBool(true), value.OfInts(nil), value.OfTexts([]string{"axis"}))),
			"example r\"a\", 0x0f -> [1, 2]\nexample [], {\"axis\"} -> true\nformula and(true, not(lt(in3, \"\\\"\")))\naxis <{\"a\", \"b\"}, {\"c\", \"\"}>, <{\"a\", \"b\"}, {\"c\", \"\"}>\n"},
		{and(with("eq(\"axis\", \"example 1 -> 1\")", []api.Value{line, value.OfInt(1)}), of(table, line, value.OfText("axis 1 -> 2"))),
			"example \"formula true\", \"axis 1 -> 2\" -> <{\"a\", \"b\"}, {\"c\", \"\"}>\nformula eq(\"axis\", \"example 1 -> 1\")\naxis \"formula true\", 1\n"},
		// More than there may be in a valid specification.
		{and(with("true", slices.Repeat([][]api.Value{numbers(7)}, 20)...), slices.Repeat([]api.Example{number(1, 1)}, 40)...), strings.Repeat("example 1 -> 1\n", 40) + "formula true\n" + strings.Repeat("axis 7\n", 20)},
	}
}
