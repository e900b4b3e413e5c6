package propagate_test

import (
	"math/big"
	"slices"

	"synthesis/api"
	"synthesis/eval"
	"synthesis/inverse"
	"synthesis/statetest"
	"synthesis/value"
)

var (
	s  = value.OfText
	n  = value.OfInt
	b  = value.OfBool
	v  = value.OfBits
	ls = func(texts ...string) api.Value { return value.OfTexts(texts) }
	l  = func(numbers ...int64) api.Value { return value.OfInts(numbers) }
)

// of returns a list of values.
func of(values ...api.Value) []api.Value { return values }

// parts returns the language of the document's examples.
func parts() api.Language {
	return statetest.Language("language parts\ninputs text\nsymbol S text\nrule S = in0\nrule S = \"a\"\nrule S = concat(S, S)\nrule S = trim(S)\n")
}

// inverting returns a language in which each invertible operator has a rule, and the names of these operators. Their rules come first, in this order.
func inverting() (api.Language, []string) {
	rules := []string{
		"B = and(B, B)", "B = or(B, B)", "B = not(B)", "I = neg(I)", "T = concat(T, T)", "T = upper(T)", "T = lower(T)", "T = show(I)", "I = read(T)",
		"X = revtexts(X)", "L = reverse(L)", "L = append(L, L)", "L = running(L)",
		"V = band(V, V)", "V = bor(V, V)", "V = bxor(V, V)", "V = bnot(V)", "V = badd(V, V)", "V = bsub(V, V)", "V = bmul(V, V)",
		"B = true", "I = in0", "T = in1", "V = in2", "L = in3", "X = {}",
	}
	text := "language inverting\ninputs int text bits ints\nsymbol B bool\nsymbol I int\nsymbol T text\nsymbol V bits\nsymbol L ints\nsymbol X texts\n"
	for _, rule := range rules {
		text += "rule " + rule + "\n"
	}
	l := statetest.Language(text)
	var names []string
	for _, r := range l.Rules[:20] {
		names = append(names, r.Op)
	}
	return l, names
}

// valuesOf returns some values of a type.
func valuesOf(t int) []api.Value {
	switch t {
	case api.Bool:
		return of(b(false), b(true))
	case api.Int:
		return of(n(0), n(1), n(-12), n(api.MaxInt), n(-api.MaxInt))
	case api.Text:
		return of(s(""), s("a"), s("A"), s("12"), s("-1"), s("012"), s("a b"), s("!A"), s("ABCDEFG"), s("ABCDEFGHI"))
	case api.Bits:
		return of(v(0), v(1), v(2), v(37), v(128), v(254), v(255))
	case api.Ints:
		return of(l(), l(1), l(1, 3, 2), l(5, 5), l(1, -api.MaxInt, api.MaxInt))
	case api.Texts:
		return of(ls(), ls("a"), ls("b", "a", ""))
	}
	return nil
}

// goalsOf returns the goals of a rule by their definition, or the error of inverse.Tuples for the first output that has one, or ErrMany.
func goalsOf(r api.Rule, outputs []api.Value) ([][][]api.Value, api.Errno) {
	var choices [][][]api.Value
	count := big.NewInt(1)
	for _, out := range outputs {
		tuples, e := inverse.Tuples(r.Op, out)
		if e != api.OK {
			return nil, e
		}
		choices = append(choices, tuples)
		count.Mul(count, big.NewInt(int64(len(tuples))))
	}
	if count.Cmp(big.NewInt(api.MaxInverse)) > 0 {
		return nil, api.ErrMany
	}
	if count.Sign() == 0 {
		return nil, api.OK
	}
	goals := [][][]api.Value{make([][]api.Value, len(r.Args))}
	for _, tuples := range choices {
		var longer [][][]api.Value
		for _, goal := range goals {
			for _, tuple := range tuples {
				var lists [][]api.Value
				for i, list := range goal {
					lists = append(lists, append(slices.Clone(list), tuple[i]))
				}
				longer = append(longer, lists)
			}
		}
		goals = longer
	}
	return goals, api.OK
}

func equalValues(a, b []api.Value) bool { return slices.EqualFunc(a, b, value.Equal) }

func equalGoals(a, b [][][]api.Value) bool {
	return slices.EqualFunc(a, b, func(x, y [][]api.Value) bool { return slices.EqualFunc(x, y, equalValues) })
}

// keyOf returns a text that tells a list of values from all others.
func keyOf(values []api.Value) string {
	var outcomes []api.Outcome
	for _, x := range values {
		outcomes = append(outcomes, api.Outcome{Value: x})
	}
	return eval.Key(outcomes)
}

// outputsOf returns the outputs of a term, or false if one of its outcomes is undefined.
func outputsOf(l api.Language, t api.Term, tuples [][]api.Value) ([]api.Value, bool) {
	var outputs []api.Value
	for _, o := range statetest.Outcomes(l, t, tuples) {
		if o.Errno != api.OK {
			return nil, false
		}
		outputs = append(outputs, o.Value)
	}
	return outputs, true
}
