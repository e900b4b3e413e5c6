package term_test

import (
	"math"
	"testing"

	"synthesis/api"
	"synthesis/grammar"
	"synthesis/term"
)

// P13.1: all terms of any form with few rules, and no others than those of the symbol are accepted.
func TestCheckOfAllForms(t *testing.T) {
	for _, x := range []struct {
		l     api.Language
		most  int
		rules []int
	}{
		{sums(), 5, []int{0, 1, 2, 3}},
		{choices(), 4, []int{-1, 0, 1, 2, 3, 4, 5, 6}},
	} {
		for symbol := range x.l.Symbols {
			isDerived := map[string]bool{}
			for _, y := range derived(x.l, symbol, x.most) {
				isDerived[write(y)] = true
			}
			for _, y := range formsUpTo(x.most, x.rules...) {
				e := term.Check(x.l, symbol, y)
				if (e == api.OK) != isDerived[write(y)] || e != firstFault(x.l, []int{symbol}, []api.Term{y}) {
					t.Fatalf("%s: Check of %s for symbol %d is %d", x.l.Name, write(y), symbol, e)
				}
			}
		}
	}
}

// firstFault returns the error of the first subterm in preorder that has one. It visits terms from a list of those that are still to be visited.
func firstFault(l api.Language, symbols []int, terms []api.Term) api.Errno {
	for len(terms) > 0 {
		t, symbol := terms[0], symbols[0]
		if t.Rule < 0 || t.Rule >= len(l.Rules) {
			return api.ErrRange
		}
		r := l.Rules[t.Rule]
		if r.Symbol != symbol {
			return api.ErrType
		}
		if len(r.Args) != len(t.Args) {
			return api.ErrForm
		}
		symbols = append(append([]int{}, r.Args...), symbols[1:]...)
		terms = append(append([]api.Term{}, t.Args...), terms[1:]...)
	}
	return api.OK
}

// P13.1: errors in their order.
func TestCheckErrors(t *testing.T) {
	l := choices()
	large := node(3, tree(9, 13), leaf(4))
	for i, x := range []struct {
		symbol int
		t      api.Term
		want   api.Errno
	}{
		{0, leaf(2), api.OK},
		{0, api.Term{Rule: 2, Args: []api.Term{}}, api.OK},
		{1, node(0, leaf(2)), api.OK},
		{2, node(3, leaf(4), node(0, leaf(2))), api.OK},
		{-1, leaf(2), api.ErrRange},
		{3, leaf(2), api.ErrRange},
		{math.MinInt, leaf(2), api.ErrRange},
		{math.MaxInt, leaf(2), api.ErrRange},
		// A symbol that is out of range comes before everything in the term.
		{3, large, api.ErrRange},
		// A size that is too great comes before every fault of a subterm.
		{0, large, api.ErrSize},
		{2, large, api.ErrSize},
		{0, chain(9, 32, leaf(2)), api.ErrSize},
		{0, node(-1, chain(9, 31, leaf(2))), api.ErrSize},
		{0, leaf(-1), api.ErrRange},
		{0, leaf(6), api.ErrRange},
		{0, leaf(math.MinInt), api.ErrRange},
		{0, leaf(math.MaxInt), api.ErrRange},
		{0, node(6, leaf(2)), api.ErrRange},
		{0, leaf(4), api.ErrType},
		{1, leaf(2), api.ErrType},
		// The wrong symbol comes before the wrong number of arguments.
		{0, leaf(0), api.ErrType},
		{0, node(4, leaf(2)), api.ErrType},
		{1, leaf(0), api.ErrForm},
		{1, node(0, leaf(2), leaf(2)), api.ErrForm},
		{1, node(4, leaf(2)), api.ErrForm},
		{2, node(5, leaf(5)), api.ErrForm},
		{0, node(1, leaf(5), leaf(2)), api.ErrForm},
		// The first subterm in preorder counts, and the root comes first.
		{1, node(0, leaf(9), leaf(2)), api.ErrForm},
		{2, node(3, node(0, leaf(4)), leaf(9)), api.ErrType},
		{2, node(3, node(0, leaf(9)), leaf(2)), api.ErrRange},
		{2, node(3, node(0), leaf(9)), api.ErrForm},
		{0, node(1, leaf(5), leaf(2), leaf(4)), api.ErrType},
		{0, node(1, leaf(2), leaf(2), leaf(2)), api.ErrType},
	} {
		if e := term.Check(l, x.symbol, x.t); e != x.want {
			t.Errorf("case %d: Check of %s for symbol %d is %d, not %d", i, write(x.t), x.symbol, e, x.want)
		}
	}
	for _, l := range invalid() {
		for _, symbol := range []int{-1, 0} {
			if e := term.Check(l, symbol, large); e != grammar.Check(l) {
				t.Errorf("%v: %d", l, e)
			}
		}
	}
}

// P13.1: terms at the limits, and beyond.
func TestCheckLimits(t *testing.T) {
	l := sums()
	largest := chain(2, 1, tree(1, 12)) // 1 rule and 4095 rules
	shared := leaf(0)
	for range 31 {
		shared = node(1, shared, shared)
	}
	for i, x := range []struct {
		t    api.Term
		want api.Errno
	}{
		{largest, api.OK},
		{chain(2, 1, largest), api.ErrSize},
		{node(1, tree(1, 12), leaf(0)), api.ErrSize}, // 4097 rules
		{chain(2, 31, leaf(0)), api.OK},
		{chain(2, 32, leaf(0)), api.ErrSize},
		{node(1, leaf(0), chain(2, 31, leaf(0))), api.ErrSize},
		{node(1, chain(2, 30, leaf(0)), chain(2, 30, leaf(0))), api.OK},
		{chain(2, 4096, leaf(0)), api.ErrSize},
		{chain(2, 1<<16-1, leaf(0)), api.ErrSize},
		{shared, api.ErrSize}, // more than 2 to the power 31 rules, in little memory
	} {
		if e := term.Check(l, 0, x.t); e != x.want {
			t.Errorf("case %d: %d, not %d", i, e, x.want)
		}
	}
}

// P13.1: DOC.md, rule 1: a term that contains itself has too many rules.
func TestCheckOfCycle(t *testing.T) {
	one, two := make([]api.Term, 1), make([]api.Term, 2)
	one[0] = node(2, one...)
	two[0], two[1] = node(1, two...), node(1, two...)
	for i, x := range []api.Term{one[0], two[0], node(1, leaf(0), one[0]), node(1, leaf(9), two[0])} {
		if e := term.Check(sums(), 0, x); e != api.ErrSize {
			t.Errorf("case %d: %d", i, e)
		}
	}
}
