package grammar_test

import (
	"slices"

	"synthesis/api"
	"synthesis/grammar"
	"synthesis/value"
)

func input(symbol, i int) api.Rule { return api.Rule{Symbol: symbol, Kind: api.RuleInput, Input: i} }

func constant(symbol int, v api.Value) api.Rule {
	return api.Rule{Symbol: symbol, Kind: api.RuleConst, Const: v}
}

func apply(symbol int, op string, args ...int) api.Rule {
	return api.Rule{Symbol: symbol, Kind: api.RuleOp, Op: op, Args: args}
}

// numbers returns a language with an input and symbols of the type Int, which have the letters of names as their names.
func numbers(names string, rules ...api.Rule) api.Language {
	l := api.Language{Name: "n", Inputs: []int{api.Int}, Rules: rules}
	for _, name := range names {
		l.Symbols = append(l.Symbols, api.Symbol{Name: string(name), Type: api.Int})
	}
	return l
}

// sums returns the language S -> in0 | add(S, S).
func sums() api.Language { return numbers("S", input(0, 0), apply(0, "add", 0, 0)) }

// everything returns a valid language with symbols of all types, and rules of all kinds.
func everything() api.Language {
	l := api.Language{Name: "Every-1", Inputs: []int{api.Int, api.Text, api.Text, api.Table}}
	for t := api.Bool; t <= api.Pattern; t++ {
		l.Symbols = append(l.Symbols, api.Symbol{Name: "a-" + value.TypeName(t), Type: t})
	}
	l.Rules = []api.Rule{
		constant(0, value.OfBool(true)),
		input(1, 0),
		constant(1, value.OfInt(-12)),
		input(2, 1),
		input(2, 2),
		constant(2, value.OfText("a\"b")),
		constant(3, value.OfBits(15)),
		constant(4, value.OfInts([]int64{1, -2})),
		constant(4, value.OfInts(nil)),
		constant(5, value.OfTexts([]string{"", "x"})),
		input(6, 3),
		constant(6, value.OfTable([][]string{{"a", "b"}, {"c", "d"}})),
		constant(7, value.OfPattern("[a-z]*")),
		apply(0, "less", 1, 1),
		apply(2, "slice", 2, 1, 1),
		apply(2, "extract", 2, 7, 1),
		apply(5, "row", 6, 1),
	}
	return l
}

// many returns a valid language with as many rules as wanted.
func many(rules int) api.Language {
	l := numbers("S")
	for i := range rules {
		l.Rules = append(l.Rules, constant(0, value.OfInt(int64(i))))
	}
	return l
}

// family returns the languages with three symbols whose rules are a subset of ten rules.
func family() []api.Language {
	rules := []api.Rule{
		input(0, 0),
		apply(0, "neg", 1),
		apply(0, "add", 1, 2),
		apply(1, "neg", 1),
		apply(1, "neg", 0),
		apply(1, "neg", 2),
		input(1, 0),
		apply(2, "neg", 1),
		apply(2, "mul", 2, 0),
		input(2, 0),
	}
	var family []api.Language
	for subset := range 1 << len(rules) {
		l := numbers("SAB")
		for i, r := range rules {
			if subset>>i&1 == 1 {
				l.Rules = append(l.Rules, r)
			}
		}
		family = append(family, l)
	}
	return family
}

// samples returns valid languages of many kinds.
func samples() []api.Language {
	return append(family(), sums(), everything(), many(0), many(api.MaxRules),
		numbers("SA", apply(0, "neg", 1)),
		numbers("SABC", apply(0, "max", 3, 1), apply(3, "neg", 2), input(2, 0), input(1, 0)))
}

// deepCopy returns a copy of l that shares no memory with it.
func deepCopy(l api.Language) api.Language {
	l.Inputs, l.Symbols, l.Rules = slices.Clone(l.Inputs), slices.Clone(l.Symbols), slices.Clone(l.Rules)
	for i := range l.Rules {
		l.Rules[i].Args = slices.Clone(l.Rules[i].Args)
		l.Rules[i].Const = copyValue(l.Rules[i].Const)
	}
	return l
}

func copyValue(v api.Value) api.Value {
	v.Items = slices.Clone(v.Items)
	for i, item := range v.Items {
		v.Items[i] = copyValue(item)
	}
	return v
}

// spoil overwrites the memory behind l.
func spoil(l api.Language) {
	for _, r := range l.Rules[:cap(l.Rules)] {
		clear(r.Args[:cap(r.Args)])
		spoilItems(r.Const.Items)
	}
	clear(l.Inputs[:cap(l.Inputs)])
	clear(l.Symbols[:cap(l.Symbols)])
	clear(l.Rules[:cap(l.Rules)])
}

func spoilItems(items []api.Value) {
	for _, item := range items[:cap(items)] {
		spoilItems(item.Items)
	}
	clear(items[:cap(items)])
}

// isValid reports whether Check returns OK.
func isValid(l api.Language) bool { return grammar.Check(l) == api.OK }
