package grammar_test

import (
	"math"
	"slices"
	"testing"

	"synthesis/api"
	"synthesis/grammar"
	"synthesis/value"
)

// P11.2
func TestOf(t *testing.T) {
	l := numbers("SAB", input(0, 0), input(2, 0), apply(0, "neg", 0), apply(2, "neg", 0), apply(0, "neg", 2))
	for symbol, want := range map[int][]int{0: {0, 2, 4}, 1: nil, 2: {1, 3}, 3: nil, -1: nil, math.MinInt: nil, math.MaxInt: nil} {
		if got := grammar.Of(l, symbol); !slices.Equal(got, want) {
			t.Errorf("symbol %d: %v, not %v", symbol, got, want)
		}
	}
	// Languages that are not valid.
	for symbol, want := range map[int][]int{7: {0, 2}, -7: {1}, 0: nil} {
		invalid := api.Language{Rules: []api.Rule{{Symbol: 7}, {Symbol: -7}, {Symbol: 7, Kind: 9}}}
		if got := grammar.Of(invalid, symbol); !slices.Equal(got, want) {
			t.Errorf("symbol %d: %v, not %v", symbol, got, want)
		}
	}
	if got := grammar.Of(many(200), 0); len(got) != 200 || got[199] != 199 {
		t.Error(got)
	}
	if got := grammar.Of(api.Language{}, 0); len(got) != 0 {
		t.Error(got)
	}
}

// content is what occurs in a term: the bits of the symbols of its proper subterms, and of the rules of all its subterms.
type content struct{ symbols, rules uint }

// contents returns for each symbol the contents of its terms, in ascending order of their numbers of levels.
func contents(l api.Language) [][]content {
	found := make([][]content, len(l.Symbols))
	for isNew := true; isNew; {
		isNew = false
		for i, r := range l.Rules {
			all := []content{{rules: 1 << i}}
			for _, arg := range r.Args {
				all = joined(all, found[arg], 1<<arg)
			}
			for _, c := range all {
				if !slices.Contains(found[r.Symbol], c) {
					found[r.Symbol] = append(found[r.Symbol], c)
					isNew = true
				}
			}
		}
	}
	return found
}

// joined returns the different contents that terms have if they have a further argument.
func joined(terms, args []content, argSymbol uint) []content {
	var all []content
	for _, c := range terms {
		for _, d := range args {
			x := content{c.symbols | d.symbols | argSymbol, c.rules | d.rules}
			if !slices.Contains(all, x) {
				all = append(all, x)
			}
		}
	}
	return all
}

// P11.3: productive and recursive symbols are found in terms.
func TestProductiveAndRecursive(t *testing.T) {
	for i, l := range family() {
		terms := contents(l)
		isProductive, isRecursive := grammar.Productive(l), grammar.Recursive(l)
		if len(isProductive) != len(l.Symbols) || len(isRecursive) != len(l.Symbols) {
			t.Fatalf("language %d: %v, %v", i, isProductive, isRecursive)
		}
		for symbol := range l.Symbols {
			if want := len(terms[symbol]) > 0; isProductive[symbol] != want {
				t.Errorf("language %d: symbol %d is productive: %v", i, symbol, !want)
			}
			containsItself := func(c content) bool { return c.symbols>>symbol&1 == 1 }
			if want := slices.ContainsFunc(terms[symbol], containsItself); isRecursive[symbol] != want {
				t.Errorf("language %d: symbol %d is recursive: %v", i, symbol, !want)
			}
		}
	}
}

// reaches reports whether a chain of rules leads from a symbol to another one in at most the given number of steps.
func reaches(l api.Language, from, to, steps int) bool {
	if from == to || steps == 0 {
		return from == to
	}
	for _, r := range l.Rules {
		leads := func(arg int) bool { return reaches(l, arg, to, steps-1) }
		if r.Symbol == from && slices.ContainsFunc(r.Args, leads) {
			return true
		}
	}
	return false
}

// P11.3: reachable symbols.
func TestReachable(t *testing.T) {
	for i, l := range family() {
		got := grammar.Reachable(l)
		for symbol := range l.Symbols {
			if want := reaches(l, 0, symbol, len(l.Symbols)); len(got) != len(l.Symbols) || got[symbol] != want {
				t.Errorf("language %d: symbol %d is reachable: %v", i, symbol, !want)
			}
		}
	}
}

// chain returns a language in which each symbol derives the next one alone, and the last one what last says.
func chain(last ...api.Rule) api.Language {
	l := numbers("ABCDEFGHIJKLMNOP")
	for i := range api.MaxSymbols - 1 {
		// Rules that are found last matter first, whether the rules are read upwards or downwards.
		at := len(l.Rules) * (i % 2)
		l.Rules = slices.Insert(l.Rules, at, apply(i, "neg", i+1))
	}
	l.Rules = append(l.Rules, last...)
	return l
}

// P11.3: the example, and chains through all symbols.
func TestSymbolsOfChains(t *testing.T) {
	yes, no := slices.Repeat([]bool{true}, api.MaxSymbols), make([]bool, api.MaxSymbols)
	start := slices.Concat(yes[:1], no[1:])
	for _, x := range []struct {
		l                                api.Language
		productive, reachable, recursive []bool
	}{
		{chain(), no, yes, no},
		{chain(input(15, 0)), yes, yes, no},
		{chain(apply(15, "neg", 0)), no, yes, no},
		{chain(apply(15, "neg", 0), input(7, 0)), yes, yes, yes},
		{chain(apply(15, "neg", 15)), no, yes, no},
		{chain(apply(15, "neg", 15), input(15, 0)), yes, yes, slices.Concat(no[:15], yes[:1])},
		{chain(input(15, 0), apply(0, "add", 0, 0)), yes, yes, start},
		{chain(apply(15, "add", 0, 15), input(0, 0)), start, yes, no},
		{sums(), yes[:1], yes[:1], yes[:1]},
		{numbers("SA"), no[:2], start[:2], no[:2]},
		{numbers("SA", input(0, 0), apply(0, "add", 0, 0), apply(0, "neg", 1), apply(1, "neg", 1)), start[:2], yes[:2], start[:2]},
		{numbers("SA", input(0, 0), input(1, 0), apply(1, "add", 0, 1)), yes[:2], start[:2], slices.Concat(no[:1], yes[:1])},
		// The rule that leads back has an argument without terms.
		{numbers("SA", input(0, 0), apply(0, "add", 0, 1)), start[:2], yes[:2], no[:2]},
		{numbers("SA", input(0, 0), apply(0, "add", 1, 0)), start[:2], yes[:2], no[:2]},
	} {
		p, q, r := grammar.Productive(x.l), grammar.Reachable(x.l), grammar.Recursive(x.l)
		if !slices.Equal(p, x.productive) || !slices.Equal(q, x.reachable) || !slices.Equal(r, x.recursive) {
			t.Errorf("%v: productive %v, reachable %v, recursive %v", x.l.Rules, p, q, r)
		}
	}
}

// P11.3: languages that are not valid.
func TestSymbolsOfInvalid(t *testing.T) {
	twice := numbers("SS", input(0, 0))
	for _, l := range []api.Language{{}, numbers(""), twice, many(api.MaxRules + 1), numbers("S", apply(0, "neg", 1)), numbers("S", constant(5, value.OfInt(1)))} {
		p, q, r := grammar.Productive(l), grammar.Reachable(l), grammar.Recursive(l)
		if len(p)+len(q)+len(r) > 0 {
			t.Errorf("%v: productive %v, reachable %v, recursive %v", l, p, q, r)
		}
	}
}

// P11.7: a symbol is productive exactly if one of its rules is.
func TestProductiveRules(t *testing.T) {
	for i, l := range samples() {
		isProductive := grammar.Productive(l)
		isProductiveRule := func(rule int) bool {
			return !slices.ContainsFunc(l.Rules[rule].Args, func(arg int) bool { return !isProductive[arg] })
		}
		for symbol := range l.Symbols {
			if slices.ContainsFunc(grammar.Of(l, symbol), isProductiveRule) != isProductive[symbol] {
				t.Errorf("language %d: symbol %d is productive: %v", i, symbol, isProductive[symbol])
			}
		}
	}
}
