// Package statetest has what the tests share of the layers that tell terms apart by their outcomes: languages with tuples, all of their terms, and their state graphs by the definition. It is no layer, and only tests use it.
package statetest

import (
	"strconv"

	"synthesis/api"
	"synthesis/languages"
	"synthesis/notation"
)

// Language returns the language with this text.
func Language(text string) api.Language {
	l, line, e := notation.ParseLanguage(text)
	if e != api.OK {
		panic("line " + strconv.Itoa(line) + " of " + text)
	}
	return l
}

// Included returns an included language.
func Included(name string) api.Language {
	l, e := languages.Get(name)
	if e != api.OK {
		panic(name)
	}
	return l
}

// Sums returns a language of integers that many programs add up to.
func Sums() api.Language {
	return Language("language sums\ninputs int\nsymbol S int\nrule S = in0\nrule S = 0\nrule S = add(S, S)\n")
}

// Backwards returns a language whose rules for large terms come first, so that a term with a large first argument precedes one of the same size with a small one.
func Backwards() api.Language {
	return Language("language backwards\ninputs int\nsymbol S int\nrule S = add(S, S)\nrule S = neg(S)\nrule S = 1\nrule S = in0\n")
}

// Overflow returns a language with sums that are undefined, and two symbols of one type.
func Overflow() api.Language {
	return Language("language overflow\ninputs int\nsymbol S int\nsymbol A int\nrule S = in0\nrule S = 1000000\nrule S = add(S, A)\nrule S = neg(S)\nrule A = in0\nrule A = 1000000\nrule A = mul(A, S)\n")
}

// Choices returns a language with three symbols, two inputs, and operators with one, two and three arguments. One more symbol has no term.
func Choices() api.Language {
	return Language("language choices\ninputs text int\nsymbol T text\nsymbol I int\nsymbol B bool\nsymbol N text\nrule I = len(T)\nrule T = iftext(B, T, T)\nrule T = in0\nrule B = less(I, I)\nrule I = in1\nrule I = -1\nrule T = word(T, I)\nrule B = true\nrule N = upper(N)\nrule T = concat(T, N)\n")
}

// Mixture returns a language with a symbol of each of the eight types.
func Mixture() api.Language {
	return Language("language mixture\ninputs table ints texts bits\nsymbol M table\nsymbol L ints\nsymbol X texts\nsymbol T text\nsymbol I int\nsymbol P pattern\nsymbol V bits\nsymbol B bool\n" +
		"rule M = in0\nrule L = in1\nrule X = in2\nrule V = in3\nrule L = []\nrule X = {}\nrule M = <>\nrule I = 0\nrule P = r\"a\"\nrule T = \"a\"\nrule V = 0x00\nrule B = false\n" +
		"rule M = transpose(M)\nrule L = take(L, I)\nrule X = row(M, I)\nrule T = item(X, I)\nrule I = head(L)\nrule I = ones(V)\nrule P = plit(T)\nrule V = bnot(V)\nrule B = matches(T, P)\n")
}

// Truths returns a language that has few lists of outcomes, also for great bounds, and a start symbol that no other symbol derives.
func Truths() api.Language {
	return Language("language truths\ninputs bool bool\nsymbol R bool\nsymbol B bool\nrule R = not(B)\nrule B = in0\nrule B = or(B, B)\nrule B = not(B)\nrule B = in1\n")
}

// Constants returns a language without inputs.
func Constants() api.Language {
	return Language("language constants\ninputs\nsymbol S text\nrule S = \"ab\"\nrule S = concat(S, S)\nrule S = upper(S)\n")
}

// Empty returns a language without terms.
func Empty() api.Language { return Language("language empty\ninputs int\nsymbol S int\n") }

// Invalid returns languages that are not valid.
func Invalid() []api.Language {
	noName, noSymbols, twice := Sums(), Sums(), Sums()
	noName.Name = ""
	noSymbols.Symbols = nil
	twice.Rules = append(twice.Rules, twice.Rules[0])
	return []api.Language{{}, noName, noSymbols, twice}
}
