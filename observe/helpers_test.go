package observe_test

import (
	"slices"
	"strconv"

	"synthesis/api"
	"synthesis/eval"
	"synthesis/notation"
	"synthesis/value"
)

// language returns the language with this text.
func language(text string) api.Language {
	l, line, e := notation.ParseLanguage(text)
	if e != api.OK {
		panic("line " + strconv.Itoa(line) + " of " + text)
	}
	return l
}

// program returns the term with this text, of the first symbol that has one.
func program(l api.Language, text string) api.Term {
	for symbol := range l.Symbols {
		if t, _, e := notation.Parse(l, symbol, text); e == api.OK {
			return t
		}
	}
	panic(text)
}

// programs returns the terms with these texts.
func programs(l api.Language, texts ...string) []api.Term {
	var list []api.Term
	for _, text := range texts {
		list = append(list, program(l, text))
	}
	return list
}

// sums returns the language of the examples.
func sums() api.Language {
	return language("language sums\ninputs int\nsymbol S int\nrule S = in0\nrule S = 0\nrule S = add(S, S)\n")
}

// overflow returns a language with sums that are undefined, and two symbols of one type.
func overflow() api.Language {
	return language("language overflow\ninputs int\nsymbol S int\nsymbol A int\nrule S = in0\nrule S = 1000000\nrule S = add(S, A)\nrule S = neg(S)\nrule A = in0\nrule A = 1000000\nrule A = mul(A, S)\n")
}

// choices returns a language with three symbols, two inputs, and operators with one, two and three arguments. One more symbol has no term.
func choices() api.Language {
	return language("language choices\ninputs text int\nsymbol T text\nsymbol I int\nsymbol B bool\nsymbol N text\nrule I = len(T)\nrule T = iftext(B, T, T)\nrule T = in0\nrule B = less(I, I)\nrule I = in1\nrule I = -1\nrule T = word(T, I)\nrule B = true\nrule N = upper(N)\nrule T = concat(T, N)\n")
}

// mixture returns a language with a symbol of each of the eight types.
func mixture() api.Language {
	return language("language mixture\ninputs table ints texts bits\nsymbol M table\nsymbol L ints\nsymbol X texts\nsymbol T text\nsymbol I int\nsymbol P pattern\nsymbol V bits\nsymbol B bool\n" +
		"rule M = in0\nrule L = in1\nrule X = in2\nrule V = in3\nrule L = []\nrule X = {}\nrule M = <>\nrule I = 0\nrule P = r\"a\"\nrule T = \"a\"\nrule V = 0x00\nrule B = false\n" +
		"rule M = transpose(M)\nrule L = take(L, I)\nrule X = row(M, I)\nrule T = item(X, I)\nrule I = head(L)\nrule I = ones(V)\nrule P = plit(T)\nrule V = bnot(V)\nrule B = matches(T, P)\n")
}

// constants returns a language without inputs.
func constants() api.Language {
	return language("language constants\ninputs\nsymbol S text\nrule S = \"ab\"\nrule S = concat(S, S)\nrule S = upper(S)\n")
}

// A family is a language, and tuples that fit it.
type family struct {
	l      api.Language
	tuples [][]api.Value
}

func families() []family {
	var mixed [][]api.Value
	for _, table := range [][][]string{nil, {{"x", "y"}}, {{"a"}, {"b"}}} {
		mixed = append(mixed,
			[]api.Value{value.OfTable(table), value.OfInts([]int64{1, 0}), value.OfTexts(nil), value.OfBits(0)},
			[]api.Value{value.OfTable(table), value.OfInts(nil), value.OfTexts([]string{"a"}), value.OfBits(254)})
	}
	texts := [][]api.Value{
		{value.OfText("ada lovelace"), value.OfInt(1)}, {value.OfText(""), value.OfInt(0)}, {value.OfText("a b"), value.OfInt(-3)}, {value.OfText("a b"), value.OfInt(-3)}, {value.OfText("a b c"), value.OfInt(2)},
	}
	return []family{
		{sums(), numbers(0, 1, 0, -3)},
		{overflow(), numbers(0, 1, -1, 2, 500000, 1000000)},
		{choices(), texts},
		{mixture(), mixed},
		{constants(), [][]api.Value{{}, nil}},
		{language("language empty\ninputs int\nsymbol S int\n"), numbers(1, 2)},
	}
}

// numbers returns tuples of one integer.
func numbers(list ...int64) [][]api.Value {
	var tuples [][]api.Value
	for _, n := range list {
		tuples = append(tuples, []api.Value{value.OfInt(n)})
	}
	return tuples
}

// invalid returns languages that are not valid.
func invalid() []api.Language {
	noName, noSymbols, twice := sums(), sums(), sums()
	noName.Name = ""
	noSymbols.Symbols = nil
	twice.Rules = append(twice.Rules, twice.Rules[0])
	return []api.Language{{}, noName, noSymbols, twice}
}

// An oracle puts together all terms of a language, following the definitions. It knows those that it has put together before.
type oracle struct {
	l     api.Language
	known map[[2]int][]api.Term
}

func oracleOf(l api.Language) oracle { return oracle{l, map[[2]int][]api.Term{}} }

// terms returns the terms of a symbol that have the size.
func (o oracle) terms(symbol, size int) []api.Term {
	all, isKnown := o.known[[2]int{symbol, size}]
	if isKnown {
		return all
	}
	for rule, r := range o.l.Rules {
		if r.Symbol != symbol {
			continue
		}
		for _, args := range o.lists(r.Args, size-1) {
			all = append(all, api.Term{Rule: rule, Args: args})
		}
	}
	o.known[[2]int{symbol, size}] = all
	return all
}

// lists returns the lists of terms, one of each symbol, whose sizes add up to total.
func (o oracle) lists(symbols []int, total int) [][]api.Term {
	if len(symbols) == 0 && total == 0 {
		return [][]api.Term{nil}
	}
	if len(symbols) == 0 {
		return nil
	}
	var all [][]api.Term
	for size := 1; size <= total; size++ {
		for _, first := range o.terms(symbols[0], size) {
			for _, others := range o.lists(symbols[1:], total-size) {
				all = append(all, append([]api.Term{first}, others...))
			}
		}
	}
	return all
}

// small returns the terms of all symbols up to a size.
func small(l api.Language, most int) []api.Term {
	var all []api.Term
	o := oracleOf(l)
	for size := 1; size <= most; size++ {
		for symbol := range l.Symbols {
			all = append(all, o.terms(symbol, size)...)
		}
	}
	return all
}

// outcomes returns the outcomes of a term on tuples, one by one.
func outcomes(l api.Language, t api.Term, tuples [][]api.Value) []api.Outcome {
	var list []api.Outcome
	for _, tuple := range tuples {
		v, e := eval.Run(l, t, tuple)
		list = append(list, api.Outcome{Value: v, Errno: e})
	}
	return list
}

// areSame reports whether two terms have the same outcomes.
func areSame(l api.Language, a, b api.Term, tuples [][]api.Value) bool {
	return slices.EqualFunc(outcomes(l, a, tuples), outcomes(l, b, tuples), func(x, y api.Outcome) bool {
		return x.Errno == y.Errno && value.Equal(x.Value, y.Value)
	})
}

// leaf returns the term of a rule without arguments.
func leaf(rule int) api.Term { return api.Term{Rule: rule} }

// nested returns the term with a rule above t on as many levels as wanted.
func nested(rule, levels int, t api.Term) api.Term {
	for range levels {
		t = api.Term{Rule: rule, Args: []api.Term{t}}
	}
	return t
}
