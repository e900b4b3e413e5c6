package sizes_test

import (
	"slices"
	"testing"

	"synthesis/api"
	"synthesis/grammar"
	"synthesis/languages"
	"synthesis/notation"
	"synthesis/sizes"
)

// set returns the set of these sizes.
func set(list ...int) sizes.Set {
	var s sizes.Set
	for _, size := range list {
		s = s.With(size)
	}
	return s
}

// elements returns the sizes in a set, also those that should not be there.
func elements(s sizes.Set) []int {
	var list []int
	for size := range 64 {
		if s.Has(size) {
			list = append(list, size)
		}
	}
	return list
}

func TestSets(t *testing.T) {
	lists := [][]int{nil, {0}, {1}, {api.MaxSize}, {0, api.MaxSize}, {1, 2, 5}, {0, 3, 20}, {11, 12, 13}, {2, 4, 8, 16}}
	var all []int
	for size := range api.MaxSize + 1 {
		all = append(all, size)
	}
	lists = append(lists, all)
	for _, a := range lists {
		if got := elements(set(a...)); !slices.Equal(got, a) {
			t.Errorf("%v: %v", a, got)
		}
		for _, b := range lists {
			if got, want := elements(set(a...).Plus(set(b...))), sums(a, b); !slices.Equal(got, want) {
				t.Errorf("%v plus %v is %v, not %v", a, b, got, want)
			}
		}
	}
}

// sums returns the sums up to MaxSize, in ascending order.
func sums(a, b []int) []int {
	var list []int
	for _, x := range a {
		for _, y := range b {
			if x+y <= api.MaxSize {
				list = append(list, x+y)
			}
		}
	}
	slices.Sort(list)
	return slices.Compact(list)
}

// tested returns languages with few and many sizes, and symbols that have no term, or none up to MaxSize.
func tested() []api.Language {
	var all []api.Language
	for _, text := range []string{
		"language sums\ninputs int\nsymbol S int\nrule S = add(S, S)\nrule S = in0\n",
		"language endless\ninputs\nsymbol S int\nsymbol A int\nrule S = neg(A)\nrule A = neg(S)\nrule A = add(S, S)\n",
		"language mixed\ninputs text int\nsymbol T text\nsymbol I int\nsymbol B bool\nsymbol N text\nrule I = len(T)\nrule T = iftext(B, T, T)\nrule T = in0\nrule B = less(I, I)\nrule I = add(I, I)\nrule T = concat(N, T)\nrule N = concat(T, N)\n",
		"language tall\ninputs\nsymbol A int\nsymbol B int\nsymbol C int\nsymbol D int\nsymbol E int\nrule A = add(B, B)\nrule B = add(C, C)\nrule C = add(D, D)\nrule D = add(E, E)\nrule E = 1\nrule E = neg(A)\n",
		"language empty\ninputs\nsymbol S int\n",
		"language chain\ninputs int\nsymbol A int\nrule A = neg(A)\nrule A = in0\n",
	} {
		l, line, e := notation.ParseLanguage(text)
		if e != api.OK {
			panic(line)
		}
		all = append(all, l)
	}
	for _, name := range languages.Names() {
		l, _ := languages.Get(name)
		all = append(all, l)
	}
	return all
}

// hasTuple reports whether there are terms of the symbols whose sizes add up to total. It follows the definition of a term of a symbol.
func hasTuple(l api.Language, symbols []int, total int, known map[[2]int]bool) bool {
	if len(symbols) == 0 {
		return total == 0
	}
	for size := 1; size <= total; size++ {
		if hasTerm(l, symbols[0], size, known) && hasTuple(l, symbols[1:], total-size, known) {
			return true
		}
	}
	return false
}

func hasTerm(l api.Language, symbol, size int, known map[[2]int]bool) bool {
	if _, isKnown := known[[2]int{symbol, size}]; !isKnown {
		found := false
		for _, rule := range grammar.Of(l, symbol) {
			found = found || hasTuple(l, l.Rules[rule].Args, size-1, known)
		}
		known[[2]int{symbol, size}] = found
	}
	return known[[2]int{symbol, size}]
}

func TestTable(t *testing.T) {
	for _, l := range tested() {
		table := sizes.Of(l)
		if len(table.BySymbol) != len(l.Symbols) || len(table.ByRule) != len(l.Rules) {
			t.Fatalf("%s: %d, %d", l.Name, len(table.BySymbol), len(table.ByRule))
		}
		known := map[[2]int]bool{}
		for size := range api.MaxSize + 1 {
			for symbol, s := range table.BySymbol {
				if s.Has(size) != hasTerm(l, symbol, size, known) {
					t.Errorf("%s: symbol %d, size %d: %t", l.Name, symbol, size, s.Has(size))
				}
			}
			for rule, s := range table.ByRule {
				if s.Has(size) != (size > 0 && hasTuple(l, l.Rules[rule].Args, size-1, known)) {
					t.Errorf("%s: rule %d, size %d: %t", l.Name, rule, size, s.Has(size))
				}
				if args := l.Rules[rule].Args; table.Sums(args).Has(size) != hasTuple(l, args, size, known) {
					t.Errorf("%s: rule %d, sum %d", l.Name, rule, size)
				}
			}
		}
	}
}

func TestLeast(t *testing.T) {
	for _, l := range tested() {
		least := sizes.Least(l)
		if len(least) != len(l.Symbols) {
			t.Fatalf("%s: %v", l.Name, least)
		}
		for symbol, s := range sizes.Of(l).BySymbol {
			want := 0
			if all := elements(s); len(all) > 0 {
				want = all[0]
			}
			if small := least[symbol] <= api.MaxSize; small && least[symbol] != want || !small && want != 0 {
				t.Errorf("%s: symbol %d: %d, not %d", l.Name, symbol, least[symbol], want)
			}
		}
	}
	// The least term of the first symbol is greater than MaxSize, and those of the second language have no end.
	for i, want := range [][]int{{1}, {0, 0}, {1, 2, 5, 0}, {31, 15, 7, 3, 1}, {0}, {1}} {
		if got := sizes.Least(tested()[i]); !slices.Equal(got, want) {
			t.Errorf("case %d: %v, not %v", i, got, want)
		}
	}
}
