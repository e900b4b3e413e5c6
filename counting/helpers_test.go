package counting_test

import (
	"cmp"
	"slices"

	"synthesis/api"
	"synthesis/value"
)

func input(symbol int) api.Rule { return api.Rule{Symbol: symbol, Kind: api.RuleInput} }

func constant(symbol int, n int64) api.Rule {
	return api.Rule{Symbol: symbol, Kind: api.RuleConst, Const: value.OfInt(n)}
}

func apply(symbol int, op string, args ...int) api.Rule {
	return api.Rule{Symbol: symbol, Kind: api.RuleOp, Op: op, Args: args}
}

// numbers returns a language with an input and symbols of the type Int, which have the letters of names as their names.
func numbers(names string, rules ...api.Rule) api.Language {
	l := api.Language{Name: "n", Inputs: []int{api.Int}, Rules: rules}
	for _, name := range names {
		l.Symbols = append(l.Symbols, api.Symbol{Name: string(name), Type: api.Int})
	}
	return l
}

// leaf returns the term of a rule without arguments.
func leaf(rule int) api.Term { return api.Term{Rule: rule} }

// node returns the term of a rule with arguments.
func node(rule int, args ...api.Term) api.Term { return api.Term{Rule: rule, Args: args} }

// preorder returns the rules of a term in preorder.
func preorder(t api.Term) []int {
	rules := []int{t.Rule}
	for _, arg := range t.Args {
		rules = append(rules, preorder(arg)...)
	}
	return rules
}

func sameTerm(a, b api.Term) bool {
	return a.Rule == b.Rule && slices.EqualFunc(a.Args, b.Args, sameTerm)
}

// terms has all terms of the symbols of a language up to a size, in ascending order.
type terms [][][]api.Term

// all returns the terms with at most most rules, which it composes of smaller ones.
func all(l api.Language, most int) terms {
	found := make(terms, len(l.Symbols))
	for symbol := range found {
		found[symbol] = make([][]api.Term, most+1)
	}
	for size := 1; size <= most; size++ {
		for i, r := range l.Rules {
			for _, args := range found.tuples(r.Args, size-1) {
				found[r.Symbol][size] = append(found[r.Symbol][size], node(i, args...))
			}
		}
		for symbol := range found {
			slices.SortFunc(found[symbol][size], func(a, b api.Term) int { return slices.Compare(preorder(a), preorder(b)) })
		}
	}
	return found
}

// tuples returns the tuples of terms, one for each symbol, that have as many rules as total.
func (found terms) tuples(symbols []int, total int) [][]api.Term {
	if len(symbols) == 0 {
		if total == 0 {
			return [][]api.Term{nil}
		}
		return nil
	}
	var tuples [][]api.Term
	for size := 1; size <= total; size++ {
		rests := found.tuples(symbols[1:], total-size)
		for _, first := range found[symbols[0]][size] {
			for _, rest := range rests {
				tuples = append(tuples, append([]api.Term{first}, rest...))
			}
		}
	}
	return tuples
}

// family returns the languages with three symbols whose rules are a subset of ten rules.
func family() []api.Language {
	rules := []api.Rule{
		apply(0, "add", 1, 0),
		input(1),
		apply(0, "neg", 2),
		apply(1, "mul", 2, 1),
		input(0),
		apply(2, "neg", 0),
		apply(1, "neg", 2),
		apply(2, "sub", 1, 0),
		constant(2, 7),
		constant(0, 7),
	}
	var family []api.Language
	for subset := range 1 << len(rules) {
		l := numbers("SAB")
		for i, r := range rules {
			if subset>>i&1 == 1 {
				l.Rules = append(l.Rules, r)
			}
		}
		family = append(family, l)
	}
	return family
}

// choices returns a language with operators of three arguments, and symbols of several types.
func choices() api.Language {
	return api.Language{
		Name:    "choices",
		Inputs:  []int{api.Text, api.Int},
		Symbols: []api.Symbol{{Name: "T", Type: api.Text}, {Name: "I", Type: api.Int}, {Name: "B", Type: api.Bool}},
		Rules: []api.Rule{
			apply(0, "iftext", 2, 0, 0),
			apply(1, "len", 0),
			apply(0, "slice", 0, 1, 1),
			{Symbol: 0, Kind: api.RuleInput, Input: 0},
			apply(2, "less", 1, 1),
			{Symbol: 1, Kind: api.RuleInput, Input: 1},
			apply(1, "ifint", 2, 1, 1),
			{Symbol: 2, Kind: api.RuleConst, Const: value.OfBool(true)},
			{Symbol: 0, Kind: api.RuleConst, Const: value.OfText("a")},
		},
	}
}

// compare compares terms by their size, and then by their rules in preorder.
func compare(a, b api.Term) int {
	p, q := preorder(a), preorder(b)
	return cmp.Or(cmp.Compare(len(p), len(q)), slices.Compare(p, q))
}
