package statetest

import (
	"slices"

	"synthesis/api"
	"synthesis/value"
)

// A Limited is a language without inputs, tuples and a bound, and the numbers of states and options of the state graph.
type Limited struct {
	Language        api.Language
	Most            int
	Tuples          [][]api.Value
	States, Options int
}

// Limits returns cases that have exactly as many states or options as the limits permit, one more, and far fewer. The start symbol derives nothing of that: its terms are the integers from 1 on.
func Limits() []Limited {
	one := [][]api.Value{nil}
	return []Limited{
		{ManyStates(1), 3, one, api.MaxNodes, 4096},
		{ManyStates(2), 3, one, api.MaxNodes + 1, 4097},
		{ManyStates(2), 2, one, 128, 128},
		// Without tuples, there is one state for each symbol and size.
		{ManyStates(30), 3, nil, 4, 95},
		{ManyOptions(1), 4, one, 1060, api.MaxOptions},
		{ManyOptions(2), 4, one, 1061, api.MaxOptions + 1},
		{ManyOptions(2), 3, one, 1030, 2978},
		{Opposites(87, 7), api.MaxSize, one, api.MaxNodes, 4096},
		{Opposites(93, 1), 22, one, 4000, 4000},
		{Opposites(93, 1), 23, one, 4186, 4186},
		// There is no recursion, so that a greater bound changes nothing.
		{ManyStates(1), api.MaxSize, one, api.MaxNodes, 4096},
		{ManyOptions(2), api.MaxSize, one, 1061, api.MaxOptions + 1},
	}
}

// ManyStates returns a language without recursion, in which the terms up to the size 3 have 4095 states, and each of the leaves has one more.
func ManyStates(leaves int) api.Language {
	l := api.Language{Name: "many-states", Symbols: Symbols(api.Int, api.Text, api.Text, api.Text)}
	l.Rules = slices.Concat(ConstantRules(0, Integers(leaves)), ConstantRules(1, Letters(63)), []api.Rule{Op(2, "trim", 1), Op(3, "concat", 1, 1)})
	return l
}

// ManyOptions returns a language without recursion, in which the terms up to the size 4 have 32767 options and fewer states, and each of the leaves has one option more.
func ManyOptions(leaves int) api.Language {
	l := api.Language{Name: "many-options", Symbols: Symbols(api.Int, api.Text, api.Text, api.Int, api.Bool)}
	operators := []api.Rule{Op(2, "replace", 1, 1, 1), Op(2, "concat", 1, 1), Op(3, "find", 1, 1), Op(4, "eqtext", 1, 1), Op(2, "upper", 1), Op(3, "len", 1)}
	l.Rules = slices.Concat(ConstantRules(0, Integers(leaves)), ConstantRules(1, Letters(31)), operators)
	return l
}

// Opposites returns a language that has as many outcomes of each size, twice, as there are constants. If states of different sizes were the same, there would be few.
func Opposites(constants, leaves int) api.Language {
	l := api.Language{Name: "opposites", Symbols: Symbols(api.Int, api.Int, api.Int)}
	l.Rules = slices.Concat(ConstantRules(0, Integers(leaves)), ConstantRules(1, Integers(constants)), []api.Rule{Op(1, "neg", 1), Op(2, "neg", 1)})
	return l
}

// Op returns the rule of an operator.
func Op(symbol int, name string, args ...int) api.Rule {
	return api.Rule{Symbol: symbol, Kind: api.RuleOp, Op: name, Args: args}
}

// Symbols returns symbols with the names A, B and so on.
func Symbols(types ...int) []api.Symbol {
	var list []api.Symbol
	for i, t := range types {
		list = append(list, api.Symbol{Name: string([]byte{byte('A' + i)}), Type: t})
	}
	return list
}

// ConstantRules returns rules for a symbol that derives constants.
func ConstantRules(symbol int, constants []api.Value) []api.Rule {
	var rules []api.Rule
	for _, c := range constants {
		rules = append(rules, api.Rule{Symbol: symbol, Kind: api.RuleConst, Const: c})
	}
	return rules
}

// Letters returns texts of one byte each.
func Letters(count int) []api.Value {
	var list []api.Value
	for i := range count {
		list = append(list, value.OfText(string([]byte{byte(33 + i)})))
	}
	return list
}

// Integers returns the numbers from 1 on.
func Integers(count int) []api.Value {
	var list []api.Value
	for i := range count {
		list = append(list, value.OfInt(int64(i+1)))
	}
	return list
}
