package eval_test

import (
	"slices"
	"strconv"

	"synthesis/api"
	"synthesis/counting"
	"synthesis/notation"
	"synthesis/operator"
	"synthesis/term"
	"synthesis/value"
)

// language returns the language with this text.
func language(text string) api.Language {
	l, line, e := notation.ParseLanguage(text)
	if e != api.OK {
		panic("line " + strconv.Itoa(line) + " of " + text)
	}
	return l
}

// program returns the term with this text, of the first symbol that has one.
func program(l api.Language, text string) api.Term {
	for symbol := range l.Symbols {
		if t, _, e := notation.Parse(l, symbol, text); e == api.OK {
			return t
		}
	}
	panic(text)
}

// sums returns a language in which sums overflow.
func sums() api.Language {
	return language(`language sums
inputs int
symbol S int
rule S = in0
rule S = 1000000
rule S = add(S, S)
rule S = neg(S)
`)
}

// choices returns a language with three symbols, two inputs, and operators with one, two and three arguments. The numbers of its rules are in the tests.
func choices() api.Language {
	return language(`language choices
inputs text int
symbol T text
symbol I int
symbol B bool
rule I = len(T)
rule T = iftext(B, T, T)
rule T = in0
rule B = less(I, I)
rule I = in1
rule I = -1
rule T = word(T, I)
rule B = true
`)
}

// mixture returns a language with a symbol of each of the eight types, and all kinds of lists as inputs and as constants.
func mixture() api.Language {
	return language(`language mixture
inputs table ints texts bits
symbol M table
symbol L ints
symbol X texts
symbol T text
symbol I int
symbol P pattern
symbol V bits
symbol B bool
rule M = in0
rule L = in1
rule X = in2
rule V = in3
rule M = <{"a", "b"}, {"", "c"}>
rule L = [3, -4]
rule X = {"ab", "b"}
rule I = 0
rule P = r"a|b"
rule M = transpose(M)
rule M = stack(M, M)
rule L = take(L, I)
rule X = row(M, I)
rule T = item(X, I)
rule T = extract(T, P, I)
rule I = head(L)
rule I = ones(V)
rule P = plit(T)
rule V = bnot(V)
rule B = eqbits(V, V)
rule B = matches(T, P)
`)
}

// constants returns a language without inputs.
func constants() api.Language {
	return language(`language constants
inputs
symbol S text
rule S = "ab"
rule S = concat(S, S)
`)
}

// A family is a language, and tuples that fit it.
type family struct {
	l      api.Language
	tuples [][]api.Value
}

func families() []family {
	tables := [][][]string{nil, {{"x", "y"}}, {{"a"}, {"b"}, {"ab"}}}
	var mixed [][]api.Value
	for _, table := range tables {
		mixed = append(mixed,
			[]api.Value{value.OfTable(table), value.OfInts([]int64{1, 0, 2}), value.OfTexts(nil), value.OfBits(0)},
			[]api.Value{value.OfTable(table), value.OfInts(nil), value.OfTexts([]string{"b", "aa"}), value.OfBits(254)})
	}
	return []family{
		{sums(), [][]api.Value{{value.OfInt(2)}, {value.OfInt(0)}, {value.OfInt(-1)}, {value.OfInt(-api.MaxInt)}, {value.OfInt(2)}}},
		{choices(), [][]api.Value{
			{value.OfText("ada lovelace"), value.OfInt(1)}, {value.OfText(""), value.OfInt(0)}, {value.OfText("a b"), value.OfInt(-3)}, {value.OfText("a b c"), value.OfInt(2)},
		}},
		{mixture(), mixed},
		{constants(), [][]api.Value{{}, nil, {}}},
	}
}

// invalid returns languages that are not valid, whose rules 0 are inputs all the same.
func invalid() []api.Language {
	noName, noSymbols, twice := sums(), sums(), sums()
	noName.Name = ""
	noSymbols.Symbols = nil
	twice.Rules = append(twice.Rules, twice.Rules[0])
	return []api.Language{{}, noName, noSymbols, twice}
}

// leaf returns the term of a rule without arguments.
func leaf(rule int) api.Term { return api.Term{Rule: rule} }

// node returns the term of a rule with arguments.
func node(rule int, args ...api.Term) api.Term { return api.Term{Rule: rule, Args: args} }

// tree returns the term with a rule of two arguments at all levels but the last one, and the rule 0 there.
func tree(rule, levels int) api.Term {
	if levels == 1 {
		return leaf(0)
	}
	return node(rule, tree(rule, levels-1), tree(rule, levels-1))
}

// derived returns the terms of a symbol up to a size, in the order of terms.
func derived(l api.Language, symbol, most int) []api.Term {
	var all []api.Term
	for size := 1; size <= most; size++ {
		count, _ := counting.Count(l, symbol, size)
		for n := range count {
			t, _ := counting.Term(l, symbol, size, n)
			all = append(all, t)
		}
	}
	return all
}

// traced returns the outcomes of all subterms of t in preorder. It goes through the rules from right to left, so that the outcomes of the arguments of a rule are the last ones on the stack.
func traced(l api.Language, t api.Term, tuple []api.Value) []api.Outcome {
	var outcomes, stack []api.Outcome
	for _, rule := range slices.Backward(term.Rules(t)) {
		r := l.Rules[rule]
		o := api.Outcome{Value: r.Const}
		if r.Kind == api.RuleInput {
			o.Value = tuple[r.Input]
		}
		if r.Kind == api.RuleOp {
			rest := len(stack) - len(r.Args)
			o = applied(r.Op, stack[rest:])
			stack = stack[:rest]
		}
		stack, outcomes = append(stack, o), append(outcomes, o)
	}
	slices.Reverse(outcomes)
	return outcomes
}

// applied returns the outcome of an operator. Its arguments are in the opposite order.
func applied(op string, args []api.Outcome) api.Outcome {
	var values []api.Value
	for _, o := range slices.Backward(args) {
		if o.Errno != api.OK {
			return api.Outcome{Errno: api.ErrUndefined}
		}
		values = append(values, o.Value)
	}
	v, e := operator.Apply(op, values)
	return api.Outcome{Value: v, Errno: e}
}

func isSame(a, b api.Outcome) bool { return a.Errno == b.Errno && value.Equal(a.Value, b.Value) }

func areSame(a, b []api.Outcome) bool { return slices.EqualFunc(a, b, isSame) }

func isZero(v api.Value) bool { return value.Equal(v, api.Value{}) }
