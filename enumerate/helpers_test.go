package enumerate_test

import (
	"strconv"
	"strings"

	"synthesis/api"
	"synthesis/languages"
	"synthesis/notation"
	"synthesis/statetest"
	"synthesis/value"
)

// program returns the term of a symbol with this text.
func program(l api.Language, symbol int, text string) api.Term {
	t, _, e := notation.Parse(l, symbol, text)
	if e != api.OK {
		panic(text)
	}
	return t
}

func sums() api.Language {
	return statetest.Language("language sums\ninputs int\nsymbol S int\nrule S = in0\nrule S = add(S, S)\n")
}

// unary returns a language that has one term of each size.
func unary() api.Language {
	return statetest.Language("language unary\ninputs int\nsymbol S int\nrule S = neg(S)\nrule S = in0\n")
}

// choices returns a language with three symbols, in which the rules of a symbol are not together, and not in the order of the sizes.
func choices() api.Language {
	return statetest.Language("language choices\ninputs text int\nsymbol T text\nsymbol I int\nsymbol B bool\nrule I = len(T)\nrule T = iftext(B, T, T)\nrule T = in0\nrule B = less(I, I)\nrule I = in1\nrule I = -1\nrule T = word(T, I)\nrule B = true\nrule T = upper(T)\n")
}

// gaps returns a language with finitely many terms, not of all sizes, and symbols that have no term.
func gaps() api.Language {
	return statetest.Language("language gaps\ninputs\nsymbol S int\nsymbol A int\nsymbol B int\nsymbol N int\nsymbol M int\nrule S = neg(N)\nrule S = add(A, A)\nrule S = 1\nrule S = add(A, B)\nrule A = add(B, B)\nrule A = 2\nrule B = 3\nrule B = sub(M, B)\nrule N = neg(M)\nrule M = add(N, B)\nrule B = neg(B)\nrule S = add(N, N)\n")
}

// finite returns a language with a symbol that has three terms, of the sizes 1, 2 and 4, and one that has one term, of the size 24.
func finite() api.Language {
	text := "language finite\ninputs int\nsymbol S int\nsymbol L int\n"
	rules := "rule S = in0\nrule S = neg(A)\nrule S = min(A, B)\nrule A = 1\nrule B = neg(A)\n"
	symbols := "symbol A int\nsymbol B int\n"
	// The terms of C have the size 7, those of D the size 3.
	rules += "rule L = neg(E)\nrule E = add(C, F)\nrule F = add(C, C)\n"
	rules += "rule C = add(D, D)\nrule D = max(A, A)\n"
	symbols += "symbol C int\nsymbol D int\nsymbol E int\nsymbol F int\n"
	return statetest.Language(text + symbols + rules)
}

// tested returns languages of different shapes.
func tested() []api.Language {
	all := []api.Language{sums(), unary(), choices(), gaps(), finite(), statetest.Language("language empty\ninputs\nsymbol S int\n")}
	for _, name := range languages.Names() {
		l, _ := languages.Get(name)
		all = append(all, l)
	}
	return all
}

// write returns a text of a term.
func write(t api.Term) string {
	var b strings.Builder
	b.WriteString(strconv.Itoa(t.Rule))
	for _, arg := range t.Args {
		b.WriteString("(" + write(arg) + ")")
	}
	return b.String()
}

func writeAll(list []api.Term) string {
	var b strings.Builder
	for _, t := range list {
		b.WriteString(write(t) + "\n")
	}
	return b.String()
}

// nested returns the term with a rule above t on as many levels as wanted.
func nested(rule, levels int, t api.Term) api.Term {
	for range levels {
		t = api.Term{Rule: rule, Args: []api.Term{t}}
	}
	return t
}

// number returns the example with one input and an output that are integers.
func number(in, out int64) api.Example {
	return api.Example{Inputs: []api.Value{value.OfInt(in)}, Output: value.OfInt(out)}
}

func isZero(t api.Term) bool { return t.Rule == 0 && len(t.Args) == 0 }
