package space_test

import (
	"slices"
	"strconv"

	"synthesis/api"
	"synthesis/notation"
	"synthesis/spacetest"
	"synthesis/term"
)

// language returns the language with this text.
func language(text string) api.Language {
	l, line, e := notation.ParseLanguage(text)
	if e != api.OK {
		panic("line " + strconv.Itoa(line) + " of " + text)
	}
	return l
}

// sums returns the language of the examples.
func sums() api.Language {
	return language("language sums\ninputs int\nsymbol S int\nrule S = in0\nrule S = add(S, S)\n")
}

// choices returns a language with several symbols, and operators with one, two and three arguments. The last symbol has no term.
func choices() api.Language {
	return language("language choices\ninputs int\nsymbol S int\nsymbol B bool\nsymbol N int\nrule S = in0\nrule S = ifint(B, S, S)\nrule B = true\nrule S = 0\nrule S = add(S, S)\nrule B = less(S, S)\nrule B = not(B)\nrule S = 1\nrule S = neg(S)\nrule B = false\nrule N = neg(N)\nrule S = sub(S, N)\n")
}

// invalid returns languages that are not valid.
func invalid() []api.Language {
	noName, noSymbols, twice := sums(), sums(), sums()
	noName.Name = ""
	noSymbols.Symbols = nil
	twice.Rules = append(twice.Rules, twice.Rules[0])
	return []api.Language{{}, noName, noSymbols, twice}
}

// derivation returns the term of a rule with arguments.
func derivation(rule int, args ...api.Term) api.Term { return api.Term{Rule: rule, Args: args} }

// programs returns the programs of a version space in order, by its definition.
func programs(s api.Space) []api.Term {
	all := spacetest.Derived(s)
	var list []api.Term
	for _, root := range s.Roots {
		list = append(list, all[root]...)
	}
	return sorted(list)
}

// sorted returns the terms of a list in order, each once.
func sorted(list []api.Term) []api.Term {
	list = slices.Clone(list)
	slices.SortFunc(list, term.Compare)
	return slices.CompactFunc(list, func(a, b api.Term) bool { return term.Compare(a, b) == 0 })
}

// isTrim reports whether every node has a term and is needed by some program.
func isTrim(s api.Space) bool {
	isPart := map[string]bool{}
	for _, t := range programs(s) {
		for _, part := range term.Subterms(t) {
			isPart[spacetest.Write(part)] = true
		}
	}
	for _, list := range spacetest.Derived(s) {
		if !slices.ContainsFunc(list, func(t api.Term) bool { return isPart[spacetest.Write(t)] }) {
			return false
		}
	}
	return true
}

// upTo returns the terms of a symbol up to a size in order, by the definition of terms.
func upTo(l api.Language, symbol, most int) []api.Term {
	known := map[[2]int][]api.Term{}
	var lists func(symbols []int, total int) [][]api.Term
	lists = func(symbols []int, total int) [][]api.Term {
		if len(symbols) == 0 && total == 0 {
			return [][]api.Term{nil}
		}
		if len(symbols) == 0 {
			return nil
		}
		var all [][]api.Term
		for size := 1; size <= total; size++ {
			for _, rest := range lists(symbols[1:], total-size) {
				for _, t := range known[[2]int{symbols[0], size}] {
					all = append(all, append([]api.Term{t}, rest...))
				}
			}
		}
		return all
	}
	var found []api.Term
	for size := 1; size <= most; size++ {
		for rule, r := range l.Rules {
			for _, args := range lists(r.Args, size-1) {
				key := [2]int{r.Symbol, size}
				known[key] = append(known[key], derivation(rule, args...))
			}
		}
		found = append(found, known[[2]int{symbol, size}]...)
	}
	return sorted(found)
}

func equalTerms(a, b []api.Term) bool {
	return slices.EqualFunc(a, b, func(x, y api.Term) bool { return spacetest.Write(x) == spacetest.Write(y) })
}

func equalOptions(a, b []api.Option) bool {
	return slices.EqualFunc(a, b, func(o, p api.Option) bool { return o.Rule == p.Rule && slices.Equal(o.Args, p.Args) })
}
