package bottomup_test

import (
	"slices"
	"testing"

	"synthesis/api"
	"synthesis/bottomup"
	"synthesis/statetest"
	"synthesis/term"
)

// bank returns what Build returns without an error.
func bank(t *testing.T, l api.Language, tuples [][]api.Value, most int) bottomup.Bank {
	t.Helper()
	b, e := bottomup.Build(l, tuples, most)
	if e != api.OK {
		t.Fatalf("%s: Build up to %d is %d", l.Name, most, e)
	}
	return b
}

func equalBanks(a, b bottomup.Bank) bool {
	return slices.EqualFunc(a.Terms, b.Terms, func(x, y []api.Term) bool { return writeAll(x) == writeAll(y) })
}

// P24.1, P24.4: the class graph by its definition, for all first parts of the tuples.
func TestBuildAndRounds(t *testing.T) {
	for _, x := range families() {
		for n := range len(x.tuples) + 1 {
			for most := 1; most <= x.most; most++ {
				g := graphOf(x.l, x.tuples[:n], most)
				if !g.isWithinLimits() {
					t.Fatalf("%s: %d states, %d options", x.l.Name, g.states, g.options)
				}
				if b := bank(t, x.l, x.tuples[:n], most); !equalBanks(b, bottomup.Bank{Terms: g.first}) {
					t.Fatalf("%s: %d tuples, up to %d: %v, not %v", x.l.Name, n, most, b.Terms, g.first)
				}
				r, e := bottomup.Rounds(x.l, x.tuples[:n], most)
				if want := g.rounds(most); e != api.OK || !slices.Equal(r, want) {
					t.Fatalf("%s: %d tuples: Rounds is %v, %d, not %v", x.l.Name, n, r, e, want)
				}
			}
		}
	}
}

// P24.1, P24.4: the examples, undefined outcomes, symbols without terms, and the order of terms.
func TestBuildExamples(t *testing.T) {
	l, b, o := statetest.Sums(), statetest.Backwards(), statetest.Overflow()
	for i, x := range []struct {
		l      api.Language
		tuples [][]api.Value
		most   int
		symbol int
		want   []string
		rounds []int
	}{
		{l, statetest.Numbers(1), 3, 0, []string{"in0", "0", "add(in0, in0)"}, []int{2, 0, 1}},
		{l, statetest.Numbers(1), 4, 0, []string{"in0", "0", "add(in0, in0)"}, []int{2, 0, 1, 0}},
		{l, statetest.Numbers(1), 5, 0, []string{"in0", "0", "add(in0, in0)", "add(in0, add(in0, in0))"}, []int{2, 0, 1, 0, 1}},
		{l, statetest.Numbers(0), api.MaxSize, 0, []string{"in0"}, append([]int{1}, make([]int, api.MaxSize-1)...)},
		{l, nil, 3, 0, []string{"in0"}, []int{1, 0, 0}},
		{l, statetest.Numbers(1000000), 5, 0, []string{"in0", "0", "add(in0, in0)"}, []int{2, 0, 1, 0, 0}},
		{l, statetest.Numbers(1, 1000000), 5, 0, []string{"in0", "0", "add(in0, in0)", "add(in0, add(in0, in0))"}, []int{2, 0, 1, 0, 1}},
		// Of the sums with three terms, the one with the larger first argument is the first.
		{b, statetest.Numbers(0), 5, 0, []string{"1", "in0", "neg(1)", "add(1, 1)", "neg(add(1, 1))", "add(add(1, 1), 1)"}, []int{2, 1, 1, 1, 1}},
		{o, statetest.Numbers(1), 3, 1, []string{"in0", "1000000", "mul(1000000, 1000000)"}, nil},
		{o, statetest.Numbers(0), 3, 1, []string{"in0", "1000000", "mul(1000000, 1000000)"}, nil},
		{statetest.Choices(), nil, 9, 3, nil, nil},
		{statetest.Choices(), nil, 9, 2, []string{"true"}, nil},
		{statetest.Choices(), nil, 2, 0, []string{"in0"}, []int{3, 0}},
		{statetest.Language("language late\ninputs\nsymbol S int\nsymbol A int\nrule S = neg(A)\nrule A = 1\n"), nil, 3, 0, []string{"neg(1)"}, []int{1, 1, 0}},
		{statetest.Empty(), statetest.Numbers(1), 2, 0, nil, []int{0, 0}},
	} {
		got := bank(t, x.l, x.tuples, x.most)
		if len(got.Terms) != len(x.l.Symbols) {
			t.Fatalf("case %d: %d symbols", i, len(got.Terms))
		}
		if texts := printed(x.l, got.Terms[x.symbol]); !slices.Equal(texts, x.want) {
			t.Errorf("case %d: %q, not %q", i, texts, x.want)
		}
		if r, e := bottomup.Rounds(x.l, x.tuples, x.most); e != api.OK || len(r) != x.most || x.rounds != nil && !slices.Equal(r, x.rounds) {
			t.Errorf("case %d: %v, %d", i, r, e)
		}
	}
}

// P24.1: bounds that are too great for an enumeration of all terms, for languages that have few classes.
func TestBuildWithGreatBounds(t *testing.T) {
	all := families()
	for _, x := range []struct {
		family
		most, count int
	}{
		// There are 16 functions of two truth values. Whether these are equal, and whether they are not, needs 11 rules, and one more for the start symbol.
		{all[5], 10, 28},
		{all[5], 11, 30},
		{all[5], 12, 32},
		{all[5], api.MaxSize, 32},
		{family{l: statetest.Sums(), tuples: statetest.Numbers(1)}, api.MaxSize, 13},
		{family{l: statetest.Sums(), tuples: statetest.Numbers(400000)}, api.MaxSize, 4},
	} {
		count := 0
		for _, list := range bank(t, x.l, x.tuples, x.most).Terms {
			count += len(list)
		}
		if count != x.count {
			t.Errorf("%s: %d classes up to %d, not %d", x.l.Name, count, x.most, x.count)
		}
	}
}

// P24.5: every argument of a representative is a representative of its symbol.
func TestArgumentsAreRepresentatives(t *testing.T) {
	for _, x := range families() {
		b := bank(t, x.l, x.tuples, x.most)
		for _, list := range b.Terms {
			for _, y := range list {
				for i, arg := range y.Args {
					isArg := func(z api.Term) bool { return term.Compare(z, arg) == 0 }
					if symbol := x.l.Rules[y.Rule].Args[i]; !slices.ContainsFunc(b.Terms[symbol], isArg) {
						t.Fatalf("%s: %s is no representative", x.l.Name, write(arg))
					}
				}
			}
		}
	}
}

// P24.5: each term has the outcomes of exactly one representative of its symbol, which does not come after it.
func TestEachTermHasARepresentative(t *testing.T) {
	for _, x := range families() {
		b := bank(t, x.l, x.tuples, x.most)
		o := statetest.OracleOf(x.l)
		for symbol := range x.l.Symbols {
			keys := map[string]api.Term{}
			for _, y := range b.Terms[symbol] {
				keys[statetest.Key(x.l, y, x.tuples)] = y
			}
			if len(keys) != len(b.Terms[symbol]) {
				t.Fatalf("%s: %d classes have %d representatives", x.l.Name, len(keys), len(b.Terms[symbol]))
			}
			for _, y := range o.UpTo(symbol, x.most) {
				first, isThere := keys[statetest.Key(x.l, y, x.tuples)]
				if !isThere || term.Compare(first, y) > 0 {
					t.Fatalf("%s: %s has the representative %s, %t", x.l.Name, write(y), write(first), isThere)
				}
			}
		}
	}
}

// P24.5: the classes of a smaller bound are those of a greater one whose representatives are small enough.
func TestBoundsCompared(t *testing.T) {
	for _, x := range families() {
		whole := bank(t, x.l, x.tuples, x.most)
		rounds, _ := bottomup.Rounds(x.l, x.tuples, x.most)
		for most := 1; most < x.most; most++ {
			part := bottomup.Bank{}
			for _, list := range whole.Terms {
				isLarge := func(y api.Term) bool { return term.Size(y) > most }
				part.Terms = append(part.Terms, slices.DeleteFunc(slices.Clone(list), isLarge))
			}
			if !equalBanks(bank(t, x.l, x.tuples, most), part) {
				t.Fatalf("%s: up to %d there are other representatives than up to %d", x.l.Name, most, x.most)
			}
			if r, e := bottomup.Rounds(x.l, x.tuples, most); e != api.OK || !slices.Equal(r, rounds[:most]) {
				t.Fatalf("%s: Rounds is %v, %d, and %v for a greater bound", x.l.Name, r, e, rounds)
			}
		}
	}
}

// P24.5: equal tuples, and tuples in another order, change nothing.
func TestTuplesInAnotherOrder(t *testing.T) {
	for _, x := range families() {
		b := bank(t, x.l, x.tuples, x.most)
		reversed := slices.Clone(x.tuples)
		slices.Reverse(reversed)
		for _, tuples := range [][][]api.Value{reversed, slices.Concat(x.tuples, x.tuples), slices.Concat(reversed[1:], x.tuples), append(reversed[1:len(reversed):len(reversed)], reversed[0])} {
			if !equalBanks(bank(t, x.l, tuples, x.most), b) {
				t.Fatalf("%s: other representatives for %v", x.l.Name, tuples)
			}
		}
	}
}
