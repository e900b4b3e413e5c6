package build_test

import (
	"slices"
	"testing"

	"synthesis/algebra"
	"synthesis/api"
	"synthesis/build"
	"synthesis/canon"
	"synthesis/counting"
	"synthesis/enumerate"
	"synthesis/space"
	"synthesis/spacetest"
	"synthesis/statetest"
	"synthesis/tally"
	"synthesis/value"
)

// P29.1: the examples of each class of programs, for all first parts of the tuples, up to some sizes.
func TestSpace(t *testing.T) {
	for _, x := range statetest.Families() {
		for n := range len(x.Tuples) + 1 {
			tuples := x.Tuples[:n]
			for _, most := range []int{1, x.Most - 2, x.Most - 1} {
				for _, c := range statetest.ClassesOf(x.Language, tuples, most) {
					if list, isDefined := c.Examples(tuples); isDefined {
						s, e := build.Space(x.Language, list, most)
						checkSpace(t, x.Language, s, e, c.Programs)
					}
				}
			}
		}
	}
}

// P29.2, P29.4: each outcome of programs on each tuple. All of them together are all programs, each once.
func TestOutcome(t *testing.T) {
	for _, x := range statetest.Families() {
		for k, tuple := range x.Tuples {
			for _, most := range []int{1, x.Most - 2, x.Most - 1} {
				var all int64
				for _, c := range statetest.ClassesOf(x.Language, x.Tuples[k:k+1], most) {
					s, e := build.Outcome(x.Language, tuple, c.Outcomes[0], most)
					checkSpace(t, x.Language, s, e, c.Programs)
					all += count(t, s, e)
				}
				if want, e := counting.Total(x.Language, 0, most); e != api.OK || all != want {
					t.Fatalf("%s: %d of %d programs", x.Language.Name, all, want)
				}
			}
		}
	}
}

// P29.3: the states of all symbols, by their definition.
func TestStates(t *testing.T) {
	for _, x := range statetest.Families() {
		for n := range len(x.Tuples) + 1 {
			for most := 1; most < x.Most; most++ {
				g := statetest.GraphOf(x.Language, x.Tuples[:n], most)
				if got, e := build.States(x.Language, x.Tuples[:n], most); e != api.OK || got != len(g.States) {
					t.Fatalf("%s: %d tuples, up to %d: %d, %d, not %d", x.Language.Name, n, most, got, e, len(g.States))
				}
			}
		}
	}
}

// P29.1: the examples of the document, outputs that no program has, and undefined outcomes, which match nothing.
func TestSpaceExamples(t *testing.T) {
	l, o := doubling(), statetest.Overflow()
	bools := statetest.Language("language bools\ninputs\nsymbol B bool\nsymbol I int\nrule B = eqint(I, I)\nrule I = add(I, I)\nrule I = 1000000\n")
	late := statetest.Language("language late\ninputs\nsymbol S int\nsymbol A int\nrule S = neg(A)\nrule A = 1\n")
	for i, x := range []struct {
		l    api.Language
		list []api.Example
		most int
		want int64
	}{
		{l, []api.Example{number(1, 2)}, 5, 1},
		{l, nil, 5, 4},
		{l, []api.Example{}, 5, 4},
		{l, []api.Example{number(0, 0)}, 5, 4},
		{l, []api.Example{number(0, 0)}, 6, 4},
		{l, []api.Example{number(0, 0)}, 7, 9},
		{l, []api.Example{number(0, 0), number(1, 3)}, 7, 2},
		{l, []api.Example{number(1, 3), number(0, 0), number(1, 3)}, 7, 2},
		{l, []api.Example{number(1, 2), number(2, 5)}, api.MaxSize, 0},
		{l, []api.Example{number(1, 2)}, 2, 0},
		{l, []api.Example{number(0, 1)}, api.MaxSize, 0},
		// There are as many programs with 12 inputs as there are binary trees.
		{l, []api.Example{number(1, 12)}, api.MaxSize, 58786},
		{l, []api.Example{number(1, 13)}, api.MaxSize, 0},
		{l, slices.Repeat([]api.Example{number(1, 12)}, api.MaxExamples), api.MaxSize, 58786},
		{l, []api.Example{number(api.MaxInt, 0)}, 3, 0},
		{o, []api.Example{number(1, 0)}, 3, 0},
		{o, []api.Example{number(1, 999999)}, 4, 1},
		{bools, []api.Example{{Output: value.OfBool(false)}}, 5, 0},
		{bools, []api.Example{{Output: value.OfBool(true)}}, 5, 1},
		{statetest.Empty(), nil, api.MaxSize, 0},
		{late, nil, 1, 0},
		{late, nil, 2, 1},
		{late, []api.Example{{Output: value.OfInt(-1)}}, 2, 1},
		// Only the terms of the start symbol are programs.
		{late, []api.Example{{Output: value.OfInt(1)}}, 2, 0},
	} {
		s, e := build.Space(x.l, x.list, x.most)
		if n := count(t, s, e); n != x.want || (n == 0) != spacetest.IsZero(s) {
			t.Errorf("case %d: %d programs, not %d", i, n, x.want)
		}
		if form, e := canon.Minimal(s); e != api.OK || !spacetest.Equal(form, s) || space.Check(x.l, s) != api.OK {
			t.Errorf("case %d: %v is not canonical", i, s)
		}
	}
}

// P29.2: outcomes that no program has, that only other symbols have, and undefined ones.
func TestOutcomeExamples(t *testing.T) {
	l, o, c := doubling(), statetest.Overflow(), statetest.Choices()
	one := []api.Value{value.OfInt(1)}
	for i, x := range []struct {
		l      api.Language
		inputs []api.Value
		want   api.Outcome
		most   int
		count  int64
	}{
		{l, one, of(value.OfInt(2)), 5, 1},
		{l, one, of(value.OfInt(3)), 5, 2},
		{l, one, of(value.OfInt(4)), 5, 0},
		{l, one, undefined(), 5, 0},
		{l, []api.Value{value.OfInt(0)}, of(value.OfInt(0)), 5, 4},
		{l, []api.Value{value.OfInt(api.MaxInt)}, undefined(), 5, 3},
		{l, []api.Value{value.OfInt(api.MaxInt)}, api.Outcome{Value: api.Value{Items: []api.Value{}}, Errno: api.ErrUndefined}, 5, 3},
		{o, one, undefined(), 3, 3},
		// What is undefined stays so.
		{l, []api.Value{value.OfInt(api.MaxInt)}, undefined(), 7, 8},
		{c, []api.Value{value.OfText("a b"), value.OfInt(1)}, of(value.OfText("b")), 3, 2},
		{c, []api.Value{value.OfText("a b"), value.OfInt(1)}, undefined(), 3, 0},
		{c, []api.Value{value.OfText("a b"), value.OfInt(-3)}, undefined(), 3, 1},
		{statetest.Constants(), nil, of(value.OfText("abab")), 3, 1},
		{statetest.Empty(), one, undefined(), 9, 0},
	} {
		s, e := build.Outcome(x.l, x.inputs, x.want, x.most)
		if n := count(t, s, e); n != x.count {
			t.Errorf("case %d: %d programs, not %d", i, n, x.count)
		}
	}
}

// P29.3: the example of the document, bounds without terms, and symbols that the start symbol does not need.
func TestStatesExamples(t *testing.T) {
	l := doubling()
	for i, x := range []struct {
		l      api.Language
		tuples [][]api.Value
		most   int
		want   int
	}{
		{l, statetest.Numbers(1), 5, 3},
		{l, statetest.Numbers(1), 6, 3},
		{l, statetest.Numbers(1), api.MaxSize, 12},
		{l, statetest.Numbers(0), api.MaxSize, 12},
		{l, nil, api.MaxSize, 12},
		{l, statetest.Numbers(0, 1, 0, 5), api.MaxSize, 12},
		// in0, and sums that are undefined, of each size.
		{l, statetest.Numbers(api.MaxInt), api.MaxSize, 12},
		{statetest.Sums(), statetest.Numbers(1), 3, 5},
		{statetest.Sums(), statetest.Numbers(0), 3, 2},
		{statetest.Empty(), statetest.Numbers(1), 3, 0},
		{statetest.ManyStates(2), [][]api.Value{nil}, 2, 128},
	} {
		if n, e := build.States(x.l, x.tuples, x.most); e != api.OK || n != x.want {
			t.Errorf("case %d: %d, %d, not %d", i, n, e, x.want)
		}
	}
}

// P29.4: Space has the programs of enumerate.Satisfying, and fewer for more examples. An example that occurs twice changes nothing.
func TestSatisfying(t *testing.T) {
	for _, x := range statetest.Families() {
		most := x.Most - 1
		classes := statetest.ClassesOf(x.Language, x.Tuples, most)
		for i := 0; i < len(classes); i += 1 + len(classes)/20 {
			list, isDefined := classes[i].Examples(x.Tuples)
			if !isDefined {
				continue
			}
			before := spacetest.SetOf(statetest.OracleOf(x.Language).UpTo(0, most)...)
			for n := range len(list) + 1 {
				s, e := build.Space(x.Language, list[:n], most)
				found, f := space.Terms(s)
				want, g := enumerate.Satisfying(x.Language, list[:n], most)
				if g == api.ErrMany {
					continue
				}
				now := spacetest.SetOf(found...)
				if e != api.OK || f != api.OK || g != api.OK || !slices.EqualFunc(found, want, func(a, b api.Term) bool { return spacetest.Write(a) == spacetest.Write(b) }) || !spacetest.IsSubset(now, before) {
					t.Fatalf("%s: %v has %d programs, not %d (%d, %d, %d)", x.Language.Name, list[:n], len(found), len(want), e, f, g)
				}
				before = now
				if again, e := build.Space(x.Language, append(slices.Clone(list[:n]), list[:min(n, 1)]...), most); e != api.OK || !spacetest.Equal(again, s) {
					t.Fatalf("%s: %v, twice: %v, %d", x.Language.Name, list[:n], again, e)
				}
			}
		}
	}
}

// P29.4: bounds that are too great for an enumeration: different outcomes have no program in common, and all outcomes together have all programs.
func TestGreatBounds(t *testing.T) {
	bools := statetest.Own()[5]
	for _, x := range []struct {
		l        api.Language
		tuple    []api.Value
		most     int
		outcomes []api.Outcome
	}{
		{bools.Language, bools.Tuples[1], 20, []api.Outcome{of(value.OfBool(false)), of(value.OfBool(true)), undefined()}},
		{doubling(), []api.Value{value.OfInt(200000)}, api.MaxSize, []api.Outcome{of(value.OfInt(200000)), of(value.OfInt(400000)), of(value.OfInt(600000)), of(value.OfInt(800000)), of(value.OfInt(api.MaxInt)), undefined()}},
	} {
		var all, union api.Space
		var sum int64
		for _, o := range x.outcomes {
			s, e := build.Outcome(x.l, x.tuple, o, x.most)
			sum += count(t, s, e)
			if both, e := algebra.Intersect(union, s); e != api.OK || !spacetest.IsZero(both) {
				t.Errorf("%s: %v, %d", x.l.Name, both, e)
			}
			if union, e = algebra.Union(union, s); e != api.OK {
				t.Fatal(e)
			}
		}
		all, e := build.Space(x.l, nil, x.most)
		if isSame, f := canon.Same(union, all); e != api.OK || f != api.OK || !isSame {
			t.Errorf("%s: %t, %d, %d", x.l.Name, isSame, e, f)
		}
		total, e := counting.Total(x.l, 0, x.most)
		if n, f := tally.Count(all); e != api.OK || f != api.OK || n != total || sum != total {
			t.Errorf("%s: %d programs, %d altogether, not %d", x.l.Name, sum, n, total)
		}
	}
}
