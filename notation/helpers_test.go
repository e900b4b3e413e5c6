package notation_test

import (
	"strconv"
	"strings"

	"synthesis/api"
	"synthesis/counting"
	"synthesis/literal"
	"synthesis/value"
)

func input(symbol, i int) api.Rule { return api.Rule{Symbol: symbol, Kind: api.RuleInput, Input: i} }

func constant(symbol int, v api.Value) api.Rule {
	return api.Rule{Symbol: symbol, Kind: api.RuleConst, Const: v}
}

func apply(symbol int, op string, args ...int) api.Rule {
	return api.Rule{Symbol: symbol, Kind: api.RuleOp, Op: op, Args: args}
}

// numbers returns a language with an input and symbols of the type Int, which have the letters of names as their names.
func numbers(names string, rules ...api.Rule) api.Language {
	l := api.Language{Name: "n", Inputs: []int{api.Int}, Rules: rules}
	for _, name := range names {
		l.Symbols = append(l.Symbols, api.Symbol{Name: string(name), Type: api.Int})
	}
	return l
}

// sums returns the language S -> in0 | add(S, S).
func sums() api.Language { return numbers("S", input(0, 0), apply(0, "add", 0, 0)) }

// ambiguous returns a language in which many terms have the same text, and the first one is often not made of the first rules.
func ambiguous() api.Language {
	return numbers("SAB",
		apply(0, "add", 1, 2),
		apply(0, "add", 2, 1),
		apply(1, "neg", 2),
		apply(2, "neg", 1),
		apply(0, "add", 0, 1),
		input(1, 0),
		constant(2, value.OfInt(1)),
		apply(1, "add", 1, 0),
		input(2, 0),
		constant(1, value.OfInt(2)),
		apply(2, "add", 2, 2),
		apply(0, "neg", 0),
		constant(0, value.OfInt(2)))
}

// family returns the languages whose rules are some of those of ambiguous.
func family() []api.Language {
	all := ambiguous()
	var family []api.Language
	for subset := range 1 << len(all.Rules) {
		// Other subsets would take too long.
		if subset%37 != 0 {
			continue
		}
		l := all
		l.Rules = nil
		for i, r := range all.Rules {
			if subset>>i&1 == 1 {
				l.Rules = append(l.Rules, r)
			}
		}
		family = append(family, l)
	}
	return family
}

// everything returns a valid language with symbols of all types, rules of all kinds, and constants whose literals look like other things.
func everything() api.Language {
	l := api.Language{Name: "Every-1", Inputs: []int{api.Int, api.Text, api.Text, api.Table}}
	for t := api.Bool; t <= api.Pattern; t++ {
		l.Symbols = append(l.Symbols, api.Symbol{Name: "a-" + value.TypeName(t), Type: t})
	}
	l.Rules = []api.Rule{
		constant(0, value.OfBool(true)),
		constant(0, value.OfBool(false)),
		input(1, 0),
		constant(1, value.OfInt(-12)),
		constant(1, value.OfInt(0)),
		constant(1, value.OfInt(api.MaxInt)),
		input(2, 1),
		input(2, 2),
		constant(2, value.OfText("a\"b\\")),
		constant(2, value.OfText("")),
		constant(2, value.OfText("S = in0), (true, ")),
		constant(3, value.OfBits(15)),
		constant(3, value.OfBits(0)),
		constant(4, value.OfInts([]int64{1, -2})),
		constant(4, value.OfInts(nil)),
		constant(5, value.OfTexts([]string{"", "x"})),
		constant(5, value.OfTexts(nil)),
		input(6, 3),
		constant(6, value.OfTable([][]string{{"a", "b"}, {"c", "d"}})),
		constant(6, value.OfTable(nil)),
		constant(7, value.OfPattern("[a-z]*")),
		constant(7, value.OfPattern("\"\\)")),
		apply(0, "less", 1, 1),
		apply(0, "eqbits", 3, 3),
		apply(0, "not", 0),
		apply(1, "sum", 4),
		apply(2, "slice", 2, 1, 1),
		apply(2, "extract", 2, 7, 1),
		apply(5, "row", 6, 1),
		apply(2, "join", 5, 2),
	}
	return l
}

// misleading returns a valid language whose symbols have names that are words of texts.
func misleading() api.Language {
	return api.Language{
		Name:    "language",
		Inputs:  []int{api.Int, api.Bool},
		Symbols: []api.Symbol{{Name: "in0", Type: api.Int}, {Name: "true", Type: api.Bool}, {Name: "add", Type: api.Int}, {Name: "rule", Type: api.Int}, {Name: "r", Type: api.Text}},
		Rules: []api.Rule{
			input(0, 0),
			apply(0, "add", 2, 3),
			input(1, 1),
			apply(2, "ifint", 1, 0, 3),
			constant(3, value.OfInt(3)),
			apply(1, "less", 0, 0),
			apply(4, "show", 0),
		},
	}
}

// invalid returns languages that are not valid.
func invalid() []api.Language {
	noName, noSymbols := sums(), sums()
	noName.Name = "-"
	noSymbols.Symbols = nil
	return []api.Language{{}, noName, noSymbols, numbers("SS"), numbers("S", input(0, 1)), numbers("S", apply(0, "neg", 1)), numbers("S", input(0, 0), input(0, 0))}
}

// leaf returns the term of a rule without arguments.
func leaf(rule int) api.Term { return api.Term{Rule: rule} }

// node returns the term of a rule with arguments.
func node(rule int, args ...api.Term) api.Term { return api.Term{Rule: rule, Args: args} }

// isEmpty reports whether t is the zero value.
func isEmpty(t api.Term) bool { return t.Rule == 0 && len(t.Args) == 0 }

// derived returns the terms of a symbol up to a size, in the order of terms.
func derived(l api.Language, symbol, most int) []api.Term {
	var all []api.Term
	for size := 1; size <= most; size++ {
		count, _ := counting.Count(l, symbol, size)
		for n := range count {
			t, _ := counting.Term(l, symbol, size, n)
			all = append(all, t)
		}
	}
	return all
}

// textOf returns the text of a term of a valid language.
func textOf(l api.Language, t api.Term) string {
	r := l.Rules[t.Rule]
	if r.Kind == api.RuleInput {
		return "in" + strconv.Itoa(r.Input)
	}
	if r.Kind == api.RuleConst {
		s, _ := literal.Print(r.Const)
		return s
	}
	var args []string
	for _, arg := range t.Args {
		args = append(args, textOf(l, arg))
	}
	return r.Op + "(" + strings.Join(args, ", ") + ")"
}

// mutations calls f for s, its beginnings, and the texts that differ from s in one byte, lack one or have one more.
func mutations(s, bytes string, f func(s string)) {
	f(s)
	for i := range len(s) + 1 {
		f(s[:i])
		for k := range len(bytes) {
			f(s[:i] + bytes[k:k+1] + s[i:])
			if i < len(s) {
				f(s[:i] + bytes[k:k+1] + s[i+1:])
			}
		}
		if i < len(s) {
			f(s[:i] + s[i+1:])
		}
	}
}
