package space_test

import (
	"math"
	"strconv"
	"testing"

	"synthesis/api"
	"synthesis/counting"
	"synthesis/grammar"
	"synthesis/space"
	"synthesis/spacetest"
	"synthesis/value"
)

// P25.5, P25.7: all terms of each symbol of some languages, up to each small size.
func TestAll(t *testing.T) {
	for _, x := range []struct {
		l    api.Language
		most int
	}{
		{sums(), 13},
		{choices(), 5},
		{language("language opposites\ninputs\nsymbol S int\nrule S = 1\nrule S = neg(S)\n"), api.MaxSize},
		{language("language empty\ninputs int\nsymbol S int\nrule S = neg(S)\n"), 5},
		{language("language none\ninputs int\nsymbol S int\nsymbol T text\n"), 3},
		// Few sizes have terms of the first symbol.
		{language("language gaps\ninputs int\nsymbol S int\nsymbol A int\nsymbol B int\nsymbol C text\nrule S = add(A, A)\nrule A = mul(B, B)\nrule A = neg(S)\nrule B = in0\nrule B = len(C)\nrule C = \"a\"\n"), 12},
	} {
		for symbol := range x.l.Symbols {
			for most := 1; most <= x.most; most++ {
				s, e := space.All(x.l, symbol, most)
				if e != api.OK {
					t.Fatalf("%s: All of %d up to %d is %d", x.l.Name, symbol, most, e)
				}
				checkSpace(t, x.l, s, upTo(x.l, symbol, most))
			}
		}
	}
}

// P25.5: the greatest sizes. An unambiguous version space has as many programs as its options give.
func TestAllOfGreatSizes(t *testing.T) {
	for _, l := range []api.Language{sums(), choices()} {
		for symbol := range l.Symbols {
			s, e := space.All(l, symbol, api.MaxSize)
			if e != api.OK || space.Check(l, s) != api.OK {
				t.Fatalf("%s: %d", l.Name, e)
			}
			counts := make([]int64, len(s.Nodes))
			bySize := make([]int64, api.MaxSize+1)
			for i, n := range s.Nodes {
				for _, o := range n.Options {
					count := int64(1)
					for _, arg := range o.Args {
						count *= counts[arg]
					}
					counts[i] += count
				}
			}
			for _, root := range s.Roots {
				bySize[s.Nodes[root].Size] += counts[root]
			}
			for size := 1; size <= api.MaxSize; size++ {
				if want, e := counting.Count(l, symbol, size); e != api.OK || bySize[size] != want {
					t.Errorf("%s: %d terms of %d with %d rules, not %d", l.Name, bySize[size], symbol, size, want)
				}
			}
		}
	}
}

// P25.5: errors in their order.
func TestAllErrors(t *testing.T) {
	l, many := choices(), manyOptions(36)
	for i, x := range []struct {
		l            api.Language
		symbol, most int
		want         api.Errno
	}{
		{l, 0, 1, api.OK},
		{l, 2, api.MaxSize, api.OK},
		{l, -1, 3, api.ErrRange},
		{l, 3, 3, api.ErrRange},
		{l, math.MinInt, 3, api.ErrRange},
		{l, math.MaxInt, 3, api.ErrRange},
		{l, 0, 0, api.ErrRange},
		{l, 0, -1, api.ErrRange},
		{l, 0, api.MaxSize + 1, api.ErrRange},
		{l, 0, math.MinInt, api.ErrRange},
		{l, 0, math.MaxInt, api.ErrRange},
		{many, 5, api.MaxSize, api.ErrRange},
		{many, 0, api.MaxSize + 1, api.ErrRange},
		{many, 0, api.MaxSize, api.ErrLimit},
	} {
		if s, e := space.All(x.l, x.symbol, x.most); e != x.want || e != api.OK && !spacetest.IsZero(s) {
			t.Errorf("case %d: %v, %d, not %d", i, s, e, x.want)
		}
	}
	for _, l := range invalid() {
		for _, n := range []int{-1, 0, 1, 99} {
			if s, e := space.All(l, n, n); e == api.OK || e != grammar.Check(l) || !spacetest.IsZero(s) {
				t.Errorf("%v: %v, %d", l, s, e)
			}
		}
	}
}

// manyOptions returns a language in which the version space of all terms up to MaxSize has 32733 options, and one more for each of the constants.
func manyOptions(constants int) api.Language {
	l := api.Language{Name: "many"}
	for i, t := range []int{api.Int, api.Text, api.Text, api.Text} {
		l.Symbols = append(l.Symbols, api.Symbol{Name: "S" + strconv.Itoa(i), Type: t})
	}
	add := func(symbol int, op string, args ...int) {
		l.Rules = append(l.Rules, api.Rule{Symbol: symbol, Kind: api.RuleOp, Op: op, Args: args})
	}
	constant := func(symbol int, v api.Value) {
		l.Rules = append(l.Rules, api.Rule{Symbol: symbol, Kind: api.RuleConst, Const: v})
	}
	constant(0, value.OfInt(1))
	// All sizes have terms of the symbols 1 to 3: 3 options of constants, 4 times 23, 3 times 253 and 18 times 1771 options of operators with one, two and three arguments.
	for symbol := 1; symbol <= 3; symbol++ {
		constant(symbol, value.OfText("a"))
		add(symbol, "upper", symbol)
		add(symbol, "concat", symbol, symbol)
		for k := range 6 {
			add(symbol, "replace", 1+k%3, 1+k/3, symbol)
		}
	}
	add(1, "lower", 1)
	for i := range constants {
		constant(0, value.OfInt(int64(i+2)))
	}
	return l
}

// P25.5: as many options as the limit permits, and one more. Nodes that the symbol does not need count.
func TestAllLimit(t *testing.T) {
	const before = 1 + 3 + 4*23 + 3*253 + 18*1771
	for _, further := range []int{0, 1} {
		l := manyOptions(api.MaxOptions - before + further)
		if e := grammar.Check(l); e != api.OK {
			t.Fatal(e)
		}
		for symbol := range l.Symbols {
			s, e := space.All(l, symbol, api.MaxSize)
			if want := []api.Errno{api.OK, api.ErrLimit}[further]; e != want || (e == api.OK) == spacetest.IsZero(s) {
				t.Errorf("symbol %d: %d, not %d", symbol, e, want)
			}
			if symbol == 0 && further == 0 && (len(s.Nodes) != 1 || len(s.Nodes[0].Options) != api.MaxOptions-before+1) {
				t.Error(s)
			}
			if s, e := space.All(l, symbol, api.MaxSize-1); e != api.OK || space.Check(l, s) != api.OK {
				t.Errorf("symbol %d: %d", symbol, e)
			}
		}
	}
}
