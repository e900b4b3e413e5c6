package term_test

import (
	"strconv"
	"strings"

	"synthesis/api"
	"synthesis/counting"
	"synthesis/value"
)

func input(symbol, i int) api.Rule { return api.Rule{Symbol: symbol, Kind: api.RuleInput, Input: i} }

func constant(symbol int, v api.Value) api.Rule {
	return api.Rule{Symbol: symbol, Kind: api.RuleConst, Const: v}
}

func apply(symbol int, op string, args ...int) api.Rule {
	return api.Rule{Symbol: symbol, Kind: api.RuleOp, Op: op, Args: args}
}

// sums returns the language S -> in0 (rule 0) | add(S, S) (rule 1) | neg(S) (rule 2).
func sums() api.Language {
	return api.Language{
		Name:    "n",
		Inputs:  []int{api.Int},
		Symbols: []api.Symbol{{Name: "S", Type: api.Int}},
		Rules:   []api.Rule{input(0, 0), apply(0, "add", 0, 0), apply(0, "neg", 0)},
	}
}

// choices returns a language with three symbols, rules of all kinds, and operators with one, two and three arguments.
func choices() api.Language {
	return api.Language{
		Name:    "choices",
		Inputs:  []int{api.Text, api.Int},
		Symbols: []api.Symbol{{Name: "T", Type: api.Text}, {Name: "I", Type: api.Int}, {Name: "B", Type: api.Bool}},
		Rules: []api.Rule{
			apply(1, "len", 0),
			apply(0, "iftext", 2, 0, 0),
			input(0, 0),
			apply(2, "less", 1, 1),
			input(1, 1),
			constant(2, value.OfBool(true)),
		},
	}
}

// invalid returns languages that are not valid.
func invalid() []api.Language {
	noName, noSymbols, twice := sums(), sums(), sums()
	noName.Name = ""
	noSymbols.Symbols = nil
	twice.Rules = append(twice.Rules, input(0, 0))
	return []api.Language{{}, noName, noSymbols, twice}
}

// leaf returns the term of a rule without arguments.
func leaf(rule int) api.Term { return api.Term{Rule: rule} }

// node returns the term of a rule with arguments.
func node(rule int, args ...api.Term) api.Term { return api.Term{Rule: rule, Args: args} }

// chain returns the term with the rule above the term bottom on as many levels as wanted.
func chain(rule, levels int, bottom api.Term) api.Term {
	for range levels {
		bottom = node(rule, bottom)
	}
	return bottom
}

// tree returns the term with a rule of two arguments at all levels but the last one, and the rule 0 there.
func tree(rule, levels int) api.Term {
	if levels == 1 {
		return leaf(0)
	}
	return node(rule, tree(rule, levels-1), tree(rule, levels-1))
}

// write returns a text of a term, of which each subterm has a part: its rule, and its arguments between ( and ), each of which is followed by a comma.
func write(t api.Term) string {
	var b strings.Builder
	b.WriteString(strconv.Itoa(t.Rule))
	b.WriteByte('(')
	for _, arg := range t.Args {
		b.WriteString(write(arg))
		b.WriteByte(',')
	}
	b.WriteByte(')')
	return b.String()
}

// written has what the tests read from the text of a term: in preorder, the rules and the numbers of arguments, and the number of levels.
type written struct {
	rules, args []int
	depth       int
}

func read(s string) written {
	var w written
	var open []int
	start := 0
	for i, c := range s {
		switch c {
		case '(':
			rule, _ := strconv.Atoi(s[start:i])
			w.rules, w.args = append(w.rules, rule), append(w.args, 0)
			open = append(open, len(w.args)-1)
			w.depth = max(w.depth, len(open))
		case ')':
			open = open[:len(open)-1]
		case ',':
			w.args[open[len(open)-1]]++
		}
		if c < '-' || c == ',' {
			start = i + 1
		}
	}
	return w
}

// forms returns all terms of any form that have the size, and rules from those given.
func forms(size int, rules []int) []api.Term {
	var all []api.Term
	for _, args := range formLists(size-1, rules) {
		for _, rule := range rules {
			all = append(all, node(rule, args...))
		}
	}
	return all
}

// formLists returns all lists of terms of any form that have the sizes total together.
func formLists(total int, rules []int) [][]api.Term {
	if total == 0 {
		return [][]api.Term{nil}
	}
	var all [][]api.Term
	for size := 1; size <= total; size++ {
		for _, rest := range formLists(total-size, rules) {
			for _, first := range forms(size, rules) {
				all = append(all, append([]api.Term{first}, rest...))
			}
		}
	}
	return all
}

// formsUpTo returns all terms of any form up to a size that have rules from those given.
func formsUpTo(most int, rules ...int) []api.Term {
	var all []api.Term
	for size := 1; size <= most; size++ {
		all = append(all, forms(size, rules)...)
	}
	return all
}

// derived returns the terms of a symbol up to a size, in the order of terms.
func derived(l api.Language, symbol, most int) []api.Term {
	var all []api.Term
	for size := 1; size <= most; size++ {
		count, _ := counting.Count(l, symbol, size)
		for n := range count {
			t, _ := counting.Term(l, symbol, size, n)
			all = append(all, t)
		}
	}
	return all
}

// paths returns all paths in t, each with the text of the subterm to which it leads.
func paths(t api.Term) map[string][]int {
	all := map[string][]int{"": {}}
	for i, arg := range t.Args {
		for key, path := range paths(arg) {
			all[strconv.Itoa(i)+"."+key] = append([]int{i}, path...)
		}
	}
	return all
}

// spoil overwrites the memory behind the arguments of a term.
func spoil(t api.Term) {
	for _, arg := range t.Args {
		spoil(arg)
	}
	all := t.Args[:cap(t.Args)]
	for i := range all {
		all[i] = leaf(-7)
	}
}

// isEmpty reports whether t is the zero value.
func isEmpty(t api.Term) bool { return t.Rule == 0 && len(t.Args) == 0 }
