package enumerate_test

import (
	"math"
	"slices"
	"testing"

	"synthesis/api"
	"synthesis/enumerate"
	"synthesis/eval"
	"synthesis/example"
	"synthesis/grammar"
	"synthesis/languages"
	"synthesis/statetest"
	"synthesis/value"
)

// included returns an included language.
func included(name string) api.Language {
	l, e := languages.Get(name)
	if e != api.OK {
		panic(name)
	}
	return l
}

// tables returns two examples, a table and its transpose.
func tables() []api.Example {
	x, y := value.OfTable([][]string{{"a", "b"}, {"c", "d"}}), value.OfTable([][]string{{"a", "c"}, {"b", "d"}})
	return []api.Example{{Inputs: []api.Value{x}, Output: y}, {Inputs: []api.Value{y}, Output: x}}
}

// texts returns examples with texts, from pairs of an input and an output.
func texts(pairs ...[2]string) []api.Example {
	var list []api.Example
	for _, x := range pairs {
		list = append(list, api.Example{Inputs: []api.Value{value.OfText(x[0])}, Output: value.OfText(x[1])})
	}
	return list
}

// P21.4, P21.5: the programs that match, and no others, for all first parts of lists of examples.
func TestSatisfyingAll(t *testing.T) {
	for _, x := range []struct {
		l      api.Language
		list   []api.Example
		counts []int
	}{
		{sums(), []api.Example{number(2, 6), number(0, 0), number(0, 0), number(-1, -3), number(1, 4)}, []int{65, 2, 2, 2, 2, 0}},
		{sums(), []api.Example{number(300000, 900000), number(0, 0), number(-300000, -900000), number(500000, 1000000)}, nil},
		{choices(), []api.Example{{Inputs: []api.Value{value.OfText("a b"), value.OfInt(1)}, Output: value.OfText("B")}, {Inputs: []api.Value{value.OfText("a bb"), value.OfInt(0)}, Output: value.OfText("A")}}, nil},
		{included("strings"), texts([2]string{"ada lovelace", "ada"}, [2]string{"alan turing", "alan"}, [2]string{"", ""}, [2]string{"a", "a"}), nil},
		{included("tables"), tables(), nil},
		{gaps(), []api.Example{{Output: value.OfInt(4)}}, nil},
	} {
		most := sizeUpTo(x.l, 0, 2500)
		for n := range len(x.list) + 1 {
			got, e := enumerate.Satisfying(x.l, x.list[:n], most)
			want := matching(x.l, x.list[:n], most)
			if e != api.OK || writeAll(got) != writeAll(want) {
				t.Fatalf("%s: %d of %d examples: %d programs, not %d: %d", x.l.Name, n, len(x.list), len(got), len(want), e)
			}
			if len(x.counts) > 0 {
				if got, e := enumerate.Satisfying(x.l, x.list[:n], 11); e != api.OK || len(got) != x.counts[n] {
					t.Errorf("%s: %d of %d examples: %d, not %d: %d", x.l.Name, n, len(x.list), len(got), x.counts[n], e)
				}
			}
			if most > 2 && n == 1 && (len(got) == 0 || len(got) == len(matching(x.l, nil, most))) {
				t.Errorf("%s: %d programs match the first example", x.l.Name, len(got))
			}
		}
	}
}

// matching returns the programs up to a size that match all examples, one by one.
func matching(l api.Language, list []api.Example, most int) []api.Term {
	var found []api.Term
	o := statetest.OracleOf(l)
	for size := 1; size <= most; size++ {
		for _, x := range o.Terms(0, size) {
			isWrong := func(y api.Example) bool {
				v, e := eval.Run(l, x, y.Inputs)
				return e != api.OK || !value.Equal(v, y.Output)
			}
			if !slices.ContainsFunc(list, isWrong) {
				found = append(found, x)
			}
		}
	}
	return found
}

// P21.4: the examples of the document, and programs without an outcome.
func TestSatisfyingExamples(t *testing.T) {
	overflow := statetest.Language("language overflow\ninputs int\nsymbol S int\nrule S = in0\nrule S = add(S, S)\nrule S = 1000000\n")
	for i, x := range []struct {
		l    api.Language
		list []api.Example
		most int
		want []string
	}{
		{sums(), []api.Example{number(2, 4)}, 3, []string{"add(in0, in0)"}},
		{sums(), []api.Example{number(2, 4)}, 2, nil},
		{sums(), []api.Example{number(2, 4), number(3, 7)}, 5, nil},
		{sums(), []api.Example{number(0, 0)}, 5, []string{"in0", "add(in0, in0)", "add(in0, add(in0, in0))", "add(add(in0, in0), in0)"}},
		{sums(), nil, 3, []string{"in0", "add(in0, in0)"}},
		{sums(), []api.Example{}, 1, []string{"in0"}},
		// An undefined outcome matches nothing, also not where the output is zero.
		{overflow, []api.Example{number(-1, 999999), number(1, 1000000)}, 3, nil},
		{overflow, []api.Example{number(-1, 999999)}, 3, []string{"add(in0, 1000000)", "add(1000000, in0)"}},
		{overflow, []api.Example{number(1000000, 0)}, 5, nil},
		{statetest.Language("language bools\ninputs\nsymbol B bool\nsymbol I int\nrule B = eqint(I, I)\nrule I = add(I, I)\nrule I = 1000000\n"), []api.Example{{Output: value.OfBool(false)}}, 5, nil},
	} {
		got, e := enumerate.Satisfying(x.l, x.list, x.most)
		var found []string
		for _, y := range got {
			found = append(found, notationOf(x.l, y))
		}
		if e != api.OK || !slices.Equal(found, x.want) {
			t.Errorf("case %d: %v, %d", i, found, e)
		}
	}
}

// P21.4: errors in their order.
func TestSatisfyingErrors(t *testing.T) {
	l, text, tooGreat := sums(), value.OfText("a"), api.MaxInt+1
	good, conflict := []api.Example{number(1, 2)}, []api.Example{number(1, 2), number(1, 3)}
	for i, x := range []struct {
		l    api.Language
		list []api.Example
		most int
		want api.Errno
	}{
		{l, good, 1, api.OK},
		{l, good, 0, api.ErrRange},
		{l, good, -1, api.ErrRange},
		{l, good, api.MaxSize + 1, api.ErrRange},
		{l, good, math.MinInt, api.ErrRange},
		{l, good, math.MaxInt, api.ErrRange},
		{l, nil, 0, api.ErrRange},
		{l, good, api.MaxSize, api.ErrMany},
		// No program matches, but there are too many all the same.
		{l, []api.Example{number(0, 1)}, 19, api.ErrMany},
		{l, []api.Example{number(0, 1)}, 18, api.OK},
		{plenty(), []api.Example{number(0, 1)}, api.MaxSize, api.ErrMany},
		{l, conflict, 1, api.ErrConflict},
		{l, conflict, 0, api.ErrConflict},
		{l, conflict, api.MaxSize, api.ErrConflict},
		{l, []api.Example{number(1, int64(tooGreat))}, 0, api.ErrRange},
		{l, []api.Example{{Inputs: []api.Value{text}, Output: text}}, 99, api.ErrType},
		{l, []api.Example{{Inputs: []api.Value{value.OfInt(1)}, Output: text}}, 99, api.ErrType},
		{l, []api.Example{{Output: text}}, 99, api.ErrSize},
		{l, slices.Repeat(good, api.MaxExamples), 2, api.OK},
		{l, slices.Repeat(good, api.MaxExamples+1), 0, api.ErrSize},
	} {
		if got, e := enumerate.Satisfying(x.l, x.list, x.most); e != x.want || e != api.OK && len(got) > 0 {
			t.Errorf("case %d: %d programs, %d, not %d", i, len(got), e, x.want)
		}
		if e := example.Check(x.l, x.list); e != api.OK && e != x.want {
			t.Errorf("case %d: %d", i, e)
		}
	}
	for _, l := range statetest.Invalid() {
		for _, list := range [][]api.Example{nil, good, conflict} {
			if got, e := enumerate.Satisfying(l, list, 0); e == api.OK || e != grammar.Check(l) || len(got) > 0 {
				t.Errorf("%s: %d programs, %d", l.Name, len(got), e)
			}
		}
	}
}
