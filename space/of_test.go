package space_test

import (
	"math"
	"slices"
	"testing"

	"synthesis/api"
	"synthesis/grammar"
	"synthesis/space"
	"synthesis/spacetest"
	"synthesis/term"
)

// checkSpace checks that a version space belongs to the language, is trim and unambiguous, and has exactly these programs, which are in order.
func checkSpace(t *testing.T, l api.Language, s api.Space, want []api.Term) {
	t.Helper()
	if e := space.Check(l, s); e != api.OK || !isTrim(s) || !spacetest.IsUnambiguous(s) {
		t.Fatalf("Check of %v is %d, trim: %t, unambiguous: %t", s, e, isTrim(s), spacetest.IsUnambiguous(s))
	}
	if !equalTerms(programs(s), want) {
		t.Fatalf("%v has %v, not %v", s, programs(s), want)
	}
	if list, e := space.Terms(s); e != api.OK || !equalTerms(list, want) {
		t.Fatalf("Terms of %v is %v, %d, not %v", s, list, e, want)
	}
	if x, e := space.Trim(s); e != api.OK || !spacetest.Equal(x, s) {
		t.Fatalf("Trim of %v is %v, %d", s, x, e)
	}
}

// P25.4, P25.7: lists of terms of all symbols, in any order, also with the same term twice.
func TestOf(t *testing.T) {
	var d spacetest.Dice
	l := choices()
	var all []api.Term
	for symbol := range l.Symbols {
		all = append(all, upTo(l, symbol, 5)...)
	}
	for n := range 150 {
		var list []api.Term
		for range n % 30 {
			list = append(list, all[d.Roll(len(all))])
		}
		if n%3 == 0 {
			list = append(list, list...)
		}
		s, e := space.Of(l, list)
		if e != api.OK {
			t.Fatalf("Of %v is %d", list, e)
		}
		want := sorted(list)
		checkSpace(t, l, s, want)
		for _, x := range all {
			isThere := slices.ContainsFunc(want, func(y api.Term) bool { return spacetest.Write(x) == spacetest.Write(y) })
			if space.Contains(s, x) != isThere {
				t.Fatalf("%v contains %s: %t", s, spacetest.Write(x), !isThere)
			}
		}
	}
}

// P25.4: a few lists, and terms of the greatest size.
func TestOfExamples(t *testing.T) {
	l := choices()
	one := derivation(0)
	longest := one
	for range api.MaxSize - 1 {
		longest = derivation(8, longest)
	}
	for i, list := range [][]api.Term{
		nil,
		{},
		{one},
		{one, one, one},
		{derivation(4, one, one), one},
		{derivation(4, one, one)},
		{derivation(2), one, derivation(5, one, one)},
		{longest},
		{longest, longest.Args[0], longest.Args[0].Args[0]},
	} {
		s, e := space.Of(l, list)
		if e != api.OK {
			t.Fatalf("case %d: %d", i, e)
		}
		checkSpace(t, l, s, sorted(list))
	}
}

// P25.4: errors in their order.
func TestOfErrors(t *testing.T) {
	l := choices()
	one := derivation(0)
	deep, endless := one, api.Term{Rule: 8, Args: make([]api.Term, 1)}
	endless.Args[0] = endless
	for range api.MaxDepth {
		deep = derivation(8, deep)
	}
	long := one
	for range api.MaxSize {
		long = derivation(8, long)
	}
	isLong := term.Size(long) == api.MaxSize+1
	for i, x := range []struct {
		list []api.Term
		want api.Errno
	}{
		{slices.Repeat([]api.Term{one}, api.MaxTerms), api.OK},
		{slices.Repeat([]api.Term{one}, api.MaxTerms+1), api.ErrMany},
		{slices.Repeat([]api.Term{derivation(-1)}, api.MaxTerms+1), api.ErrMany},
		{[]api.Term{derivation(-1)}, api.ErrRange},
		{[]api.Term{derivation(12)}, api.ErrRange},
		{[]api.Term{derivation(math.MaxInt)}, api.ErrRange},
		{[]api.Term{derivation(math.MinInt)}, api.ErrRange},
		{[]api.Term{derivation(12, endless)}, api.ErrRange},
		{[]api.Term{derivation(8)}, api.ErrForm},
		{[]api.Term{derivation(0, one)}, api.ErrForm},
		{[]api.Term{derivation(8, derivation(2))}, api.ErrType},
		{[]api.Term{derivation(8, derivation(12))}, api.ErrRange},
		{[]api.Term{derivation(10, one)}, api.ErrType},
		{[]api.Term{deep}, api.ErrSize},
		{[]api.Term{endless}, api.ErrSize},
		{[]api.Term{long}, api.ErrSize},
		{[]api.Term{long.Args[0]}, api.OK},
		// In a term that is too long, another error counts.
		{[]api.Term{derivation(4, long, derivation(2))}, api.ErrType},
		// The first term with an error counts.
		{[]api.Term{one, long, derivation(-1)}, api.ErrSize},
		{[]api.Term{one, derivation(-1), long}, api.ErrRange},
		{[]api.Term{derivation(8), derivation(-1)}, api.ErrForm},
	} {
		s, e := space.Of(l, x.list)
		if e != x.want || !isLong || e != api.OK && !spacetest.IsZero(s) {
			t.Errorf("case %d: %v, %d, not %d", i, s, e, x.want)
		}
	}
	for _, l := range invalid() {
		for _, list := range [][]api.Term{nil, {one}, {derivation(-1)}, slices.Repeat([]api.Term{one}, api.MaxTerms+1)} {
			if s, e := space.Of(l, list); e == api.OK || e != grammar.Check(l) || !spacetest.IsZero(s) {
				t.Errorf("%v: %v, %d", l, s, e)
			}
		}
	}
}

// P25.4: as many different subterms as the limit permits, and one more.
func TestOfLimit(t *testing.T) {
	l := language("language one\ninputs int\nsymbol S int\nrule S = in0\nrule S = 0\nrule S = add(S, S)\nrule S = sub(S, S)\nrule S = neg(S)\n")
	// All subterms of these terms are among them, since they come before.
	first := upTo(l, 0, 8)[:api.MaxNodes+1]
	s, e := space.Of(l, first[:api.MaxNodes])
	if e != api.OK || len(s.Roots) != api.MaxNodes || space.Check(l, s) != api.OK {
		t.Error(len(s.Roots), e)
	}
	if list, e := space.Terms(s); e != api.OK || !equalTerms(list, first[:api.MaxNodes]) {
		t.Error(len(list), e)
	}
	// The input is a subterm of others.
	if s, e := space.Of(l, first[1:api.MaxNodes]); e != api.OK || len(s.Roots) != api.MaxNodes-1 {
		t.Error(len(s.Roots), e)
	}
	if s, e := space.Of(l, first[1:]); e != api.ErrLimit || !spacetest.IsZero(s) {
		t.Error(len(s.Roots), e)
	}
	if s, e := space.Of(l, first); e != api.ErrMany || !spacetest.IsZero(s) {
		t.Error(len(s.Roots), e)
	}
	// An error of a term comes before the limit.
	first[0] = derivation(4)
	if s, e := space.Of(l, append(first[2:], first[0])); e != api.ErrForm || !spacetest.IsZero(s) {
		t.Error(len(s.Roots), e)
	}
}
