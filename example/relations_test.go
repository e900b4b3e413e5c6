package example_test

import (
	"slices"
	"testing"

	"synthesis/api"
	"synthesis/counting"
	"synthesis/example"
	"synthesis/value"
)

// P17.2: the definition, for examples of all forms.
func TestConflicts(t *testing.T) {
	for n, list := range lists() {
		var want [][2]int
		for i, x := range list {
			for k, y := range list {
				if i < k && contradict(x, y) {
					want = append(want, [2]int{i, k})
				}
			}
		}
		if got := example.Conflicts(list); !slices.Equal(got, want) {
			t.Errorf("list %d: %d pairs, not %d: %v", n, len(got), len(want), got[:min(len(got), 10)])
		}
	}
	if got := example.Conflicts([]api.Example{number(1, 2), number(1, 3), number(1, 2)}); !slices.Equal(got, [][2]int{{0, 1}, {1, 2}}) {
		t.Error(got)
	}
	if got := example.Conflicts([]api.Example{number(1, 2), number(5, 2), number(1, 3), number(5, 3), number(1, 4)}); !slices.Equal(got, [][2]int{{0, 2}, {0, 4}, {1, 3}, {2, 4}}) {
		t.Error(got)
	}
}

// P17.4, P17.6: the definition, for examples of all forms.
func TestUnique(t *testing.T) {
	for n, list := range lists() {
		var want []api.Example
		for _, x := range list {
			if !slices.ContainsFunc(want, func(y api.Example) bool { return equal(x, y) }) {
				want = append(want, x)
			}
		}
		got := example.Unique(list)
		if !slices.EqualFunc(got, want, equal) {
			t.Errorf("list %d: %d examples, not %d", n, len(got), len(want))
		}
		if !slices.EqualFunc(example.Unique(got), want, equal) {
			t.Errorf("list %d: Unique of Unique is another list", n)
		}
		if (len(example.Conflicts(list)) == 0) != (len(example.Conflicts(got)) == 0) {
			t.Errorf("list %d: Unique changes what contradicts", n)
		}
	}
}

// Examples that are many, nested deeply, and equal but for their innermost parts.
func TestLargeExamples(t *testing.T) {
	deep, other := value.OfInt(1), value.OfInt(2)
	for range 20000 {
		deep, other = api.Value{Items: []api.Value{deep}}, api.Value{Items: []api.Value{other}}
	}
	list := []api.Example{of(deep, other), of(other, deep), of(other, other), of(deep, deep), of(deep, other)}
	if c := example.Conflicts(list); !slices.Equal(c, [][2]int{{0, 2}, {1, 3}, {2, 4}}) {
		t.Error(c)
	}
	if u := example.Unique(list); len(u) != 4 {
		t.Error(len(u))
	}
	var many []api.Example
	for i := range int64(100000) {
		many = append(many, number(i/2, i/2))
	}
	many = append(many, number(7, 8))
	if c := example.Conflicts(many); !slices.Equal(c, [][2]int{{14, 100000}, {15, 100000}}) {
		t.Error(c)
	}
	if u := example.Unique(many); len(u) != 50001 {
		t.Error(len(u))
	}
}

// P17.3
func TestMatches(t *testing.T) {
	n, s := value.OfInt, value.OfText
	for i, x := range []struct {
		l    api.Language
		text string
		list []api.Example
		want []bool
	}{
		{sums(), "add(in0, in0)", []api.Example{number(1, 2), number(3, 5), number(1000000, 1), number(0, 0)}, []bool{true, false, false, true}},
		{sums(), "in0", []api.Example{number(1, 1), number(2, 1), number(1, 1)}, []bool{true, false, true}},
		{sums(), "in0", nil, nil},
		// What is undefined is no value at all.
		{sums(), "add(in0, 1000000)", []api.Example{number(1, 0), number(0, 1000000), number(-1, 999999), number(-1, 999999)}, []bool{false, true, true, true}},
		{words(), "word(in0, in1)", []api.Example{of(s("b"), s("a b"), n(1)), of(s("a"), s("a b"), n(-1)), of(s(""), s("a b"), n(7))}, []bool{true, false, false}},
		{constants(), "5", []api.Example{of(n(5)), of(n(5))}, []bool{true, true}},
		{constants(), "neg(5)", []api.Example{of(n(5))}, []bool{false}},
	} {
		if m, e := example.Matches(x.l, program(x.l, x.text), x.list); !slices.Equal(m, x.want) || e != api.OK {
			t.Errorf("case %d: %v, %d", i, m, e)
		}
	}
}

// P17.3: the errors of a term come before those of the examples.
func TestMatchesErrors(t *testing.T) {
	for i, x := range checkCases() {
		m, e := example.Matches(x.l, api.Term{}, x.list)
		if e != x.want || e == api.OK && len(m) != len(x.list) || e != api.OK && len(m) > 0 {
			t.Errorf("case %d: %v, %d, not %d", i, m, e, x.want)
		}
	}
	leaf := api.Term{}
	for i, x := range []struct {
		y    api.Term
		want api.Errno
	}{
		{api.Term{Rule: 5}, api.ErrRange},
		{api.Term{Rule: -1}, api.ErrRange},
		{api.Term{Args: []api.Term{leaf}}, api.ErrForm},
		{api.Term{Rule: 2, Args: []api.Term{leaf}}, api.ErrForm},
		// A program is a term of the start symbol.
		{api.Term{Rule: 4, Args: []api.Term{leaf}}, api.ErrType},
		{deep(3, api.MaxDepth), api.ErrSize},
	} {
		for _, list := range [][]api.Example{nil, {number(1, 2)}, {number(1, 2), number(1, 3)}, {{}}, repeated(leafExample(), api.MaxExamples+1)} {
			if m, e := example.Matches(sums(), x.y, list); e != x.want || len(m) > 0 {
				t.Errorf("case %d: %v, %d, not %d", i, m, e, x.want)
			}
		}
	}
	if m, e := example.Matches(sums(), deep(3, api.MaxDepth-1), []api.Example{number(1, -1)}); e != api.OK || len(m) != 1 || !m[0] {
		t.Error(m, e)
	}
}

func leafExample() api.Example { return api.Example{} }

// deep returns a term with a rule of one argument on as many levels as wanted, above the rule 0.
func deep(rule, levels int) api.Term {
	t := api.Term{}
	for range levels {
		t = api.Term{Rule: rule, Args: []api.Term{t}}
	}
	return t
}

// P17.6: a program matches all examples exactly if it matches all of Unique, and not both of two that contradict each other.
func TestMatchesConsequences(t *testing.T) {
	l := sums()
	list := []api.Example{number(1, 2), number(2, 4), number(1, 2), number(0, 0), number(2, 4)}
	conflicting := [][2]api.Example{{number(1, 2), number(1, 1)}, {number(0, 0), number(0, 1000000)}, {number(3, -3), number(3, 3)}}
	for size := 1; size <= 4; size++ {
		count, _ := counting.Count(l, 0, size)
		for i := range count {
			y, _ := counting.Term(l, 0, size, i)
			all, e := example.Matches(l, y, list)
			some, f := example.Matches(l, y, example.Unique(list))
			if e != api.OK || f != api.OK || len(some) != 3 || slices.Contains(all, false) != slices.Contains(some, false) {
				t.Error(y, all, some, e, f)
			}
			for _, pair := range conflicting {
				a, _ := example.Matches(l, y, pair[:1])
				b, _ := example.Matches(l, y, pair[1:])
				if a[0] && b[0] {
					t.Error(y, pair)
				}
			}
		}
	}
}
