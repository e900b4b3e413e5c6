package term_test

import (
	"math"
	"slices"
	"testing"

	"synthesis/api"
	"synthesis/grammar"
	"synthesis/term"
)

// numberLists calls f for all lists of at most the given length whose elements are from least to most.
func numberLists(length, least, most int, f func([]int)) {
	var extend func(list []int)
	extend = func(list []int) {
		f(list)
		for n := least; n <= most && len(list) < length; n++ {
			extend(append(slices.Clone(list), n))
		}
	}
	extend(nil)
}

// buildError returns the error of Build for a valid language and a few rules. It reads from left to right, and keeps the symbols that are still required, -1 for any.
func buildError(l api.Language, rules []int) api.Errno {
	required := []int{-1}
	for _, rule := range rules {
		if len(required) == 0 {
			return api.ErrSize
		}
		if rule < 0 || rule >= len(l.Rules) {
			return api.ErrRange
		}
		if required[0] != -1 && required[0] != l.Rules[rule].Symbol {
			return api.ErrType
		}
		required = slices.Concat(l.Rules[rule].Args, required[1:])
	}
	if len(required) > 0 {
		return api.ErrSize
	}
	return api.OK
}

// P13.4, P13.7: all short lists, for languages with one symbol and with several.
func TestBuildOfAllLists(t *testing.T) {
	for _, x := range []struct {
		l            api.Language
		length, most int
	}{{sums(), 7, 3}, {choices(), 5, 6}} {
		built := map[string]bool{}
		numberLists(x.length, -1, x.most, func(rules []int) {
			before := slices.Clone(rules)
			got, e := term.Build(x.l, rules)
			if want := buildError(x.l, rules); e != want || e != api.OK && !isEmpty(got) {
				t.Fatalf("%s: Build of %v is %s, %d, not %d", x.l.Name, rules, write(got), e, want)
			}
			if !slices.Equal(rules, before) {
				t.Fatalf("%v is changed", before)
			}
			if e == api.OK {
				built[write(got)] = true
				if !slices.Equal(term.Rules(got), rules) || term.Check(x.l, x.l.Rules[rules[0]].Symbol, got) != api.OK {
					t.Fatalf("%s: Build of %v is %s", x.l.Name, rules, write(got))
				}
			}
		})
		count := 0
		for symbol := range x.l.Symbols {
			for _, y := range derived(x.l, symbol, x.length) {
				count++
				if got, e := term.Build(x.l, term.Rules(y)); e != api.OK || term.Compare(got, y) != 0 || !built[write(y)] {
					t.Fatalf("%s: Build of Rules of %s is %s, %d", x.l.Name, write(y), write(got), e)
				}
			}
		}
		if count == 0 || count != len(built) {
			t.Errorf("%s: %d terms are built, and %d exist", x.l.Name, len(built), count)
		}
	}
}

// repeated returns a list that has a number as often as wanted, and then the others.
func repeated(n, times int, others ...int) []int {
	return append(slices.Repeat([]int{n}, times), others...)
}

// P13.4: errors in their order, and the limits.
func TestBuildErrors(t *testing.T) {
	l := choices()
	for i, x := range []struct {
		rules []int
		want  api.Errno
	}{
		{nil, api.ErrSize},
		{[]int{}, api.ErrSize},
		{[]int{2}, api.OK},
		{[]int{4}, api.OK},
		{[]int{5}, api.OK},
		{[]int{3, 4, 0, 2}, api.OK},
		{[]int{0}, api.ErrSize},
		{[]int{3, 4}, api.ErrSize},
		{[]int{3, 4, 0}, api.ErrSize},
		{[]int{6}, api.ErrRange},
		{[]int{-1}, api.ErrRange},
		{[]int{math.MinInt}, api.ErrRange},
		{[]int{math.MaxInt}, api.ErrRange},
		{[]int{0, 4}, api.ErrType},
		{[]int{3, 2, 9}, api.ErrType},
		{[]int{3, 9, 2}, api.ErrRange},
		{[]int{3, 4, 2}, api.ErrType},
		{[]int{3, 4, 4, 4}, api.ErrSize},
		// The term ends before the last number, which is not read.
		{[]int{2, -1}, api.ErrSize},
		{[]int{0, 2, 9}, api.ErrSize},
		// Too many rules come before each fault.
		{repeated(-1, api.MaxTerms), api.ErrRange},
		{repeated(-1, api.MaxTerms+1), api.ErrSize},
		{repeated(4, api.MaxTerms+1), api.ErrSize},
	} {
		if got, e := term.Build(l, x.rules); e != x.want || e != api.OK && !isEmpty(got) {
			t.Errorf("case %d: %s, %d, not %d", i, write(got), e, x.want)
		}
	}
	for _, l := range invalid() {
		for _, rules := range [][]int{nil, {0}, {-1}, repeated(0, api.MaxTerms+1)} {
			if got, e := term.Build(l, rules); e != grammar.Check(l) || !isEmpty(got) {
				t.Errorf("%v: %s, %d", l, write(got), e)
			}
		}
	}
}

// P13.4: terms at the limits, and beyond.
func TestBuildLimits(t *testing.T) {
	l := sums()
	largest := chain(2, 1, tree(1, 12))
	for i, x := range []struct {
		rules []int
		want  api.Errno
	}{
		{term.Rules(largest), api.OK},
		{append([]int{2}, term.Rules(largest)...), api.ErrSize},
		{repeated(2, 31, 0), api.OK},
		{repeated(2, 32, 0), api.ErrSize},
		{append([]int{1, 0}, repeated(2, 30, 0)...), api.OK},
		{append([]int{1, 0}, repeated(2, 31, 0)...), api.ErrSize},
		{repeated(1, 31, repeated(0, 32)...), api.OK},
		{repeated(1, 32, repeated(0, 33)...), api.ErrSize},
		{repeated(2, 4095, 0), api.ErrSize},
		{repeated(2, 4096), api.ErrSize},
		// A fault in a term that is too deep is found first.
		{repeated(2, 40, 9), api.ErrRange},
		{repeated(2, 4095, -1), api.ErrRange},
		{repeated(2, 40, 0, 0), api.ErrSize},
	} {
		got, e := term.Build(l, x.rules)
		if e != x.want || e == api.OK && !slices.Equal(term.Rules(got), x.rules) || e != api.OK && !isEmpty(got) {
			t.Errorf("case %d: %d, not %d", i, e, x.want)
		}
	}
}
