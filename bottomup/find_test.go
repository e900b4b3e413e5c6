package bottomup_test

import (
	"math"
	"slices"
	"testing"

	"synthesis/api"
	"synthesis/bottomup"
	"synthesis/enumerate"
	"synthesis/eval"
	"synthesis/example"
	"synthesis/grammar"
	"synthesis/notation"
	"synthesis/statetest"
	"synthesis/term"
	"synthesis/value"
)

// number returns the example with one input and an output that are integers.
func number(in, out int64) api.Example {
	return api.Example{Inputs: []api.Value{value.OfInt(in)}, Output: value.OfInt(out)}
}

// texts returns examples with texts, from pairs of an input and an output.
func texts(pairs ...[2]string) []api.Example {
	var list []api.Example
	for _, x := range pairs {
		list = append(list, api.Example{Inputs: []api.Value{value.OfText(x[0])}, Output: value.OfText(x[1])})
	}
	return list
}

// examplesOf returns the examples that a term matches, or false if one of its outcomes is undefined.
func examplesOf(l api.Language, t api.Term, tuples [][]api.Value) ([]api.Example, bool) {
	var list []api.Example
	for _, tuple := range tuples {
		v, e := eval.Run(l, t, tuple)
		if e != api.OK {
			return nil, false
		}
		list = append(list, api.Example{Inputs: tuple, Output: v})
	}
	return list, true
}

// some returns at most count terms of a list, which are spread over it.
func some(list []api.Term, count int) []api.Term {
	var chosen []api.Term
	for i := 0; i < len(list); i += 1 + len(list)/count {
		chosen = append(chosen, list[i])
	}
	return chosen
}

// P24.2, P24.5: what the classes of programs match, up to the size of their first terms, and up to one rule less.
func TestFindAll(t *testing.T) {
	for _, x := range families() {
		for n := range len(x.tuples) + 1 {
			for _, want := range some(graphOf(x.l, x.tuples[:n], x.most).first[0], 30) {
				if list, isDefined := examplesOf(x.l, want, x.tuples[:n]); isDefined {
					checkFind(t, x, list, want)
				}
			}
		}
	}
}

// checkFind checks that a term is found for examples, unless the bound is too small.
func checkFind(t *testing.T, x family, list []api.Example, want api.Term) {
	t.Helper()
	size := term.Size(want)
	for _, most := range []int{size, x.most} {
		if got, e := bottomup.Find(x.l, list, most); e != api.OK || write(got) != write(want) {
			t.Fatalf("%s: Find of %v up to %d is %s, %d, not %s", x.l.Name, list, most, write(got), e, write(want))
		}
	}
	if size == 1 {
		return
	}
	if got, e := bottomup.Find(x.l, list, size-1); e != api.ErrUnreal || !isZero(got) {
		t.Fatalf("%s: Find of %v up to %d is %s, %d", x.l.Name, list, size-1, write(got), e)
	}
}

// P24.2, P24.5: Find is the first one of all programs that match.
func TestFindIsTheFirst(t *testing.T) {
	lists := []struct {
		l    api.Language
		list []api.Example
		most int
	}{
		{statetest.Sums(), []api.Example{number(2, 6), number(0, 0), number(0, 0), number(-1, -3), number(1, 4)}, 9},
		{statetest.Backwards(), []api.Example{number(2, 3), number(0, 1), number(0, 1), number(5, 6), number(5, 6)}, 8},
		{statetest.Backwards(), []api.Example{number(2, 0), number(0, -2), number(7, 5)}, 8},
		{statetest.Included("strings"), texts([2]string{"ada lovelace", "ada"}, [2]string{"alan turing", "alan"}, [2]string{"", ""}, [2]string{"a", "a"}), 4},
	}
	for _, x := range lists {
		for n := range len(x.list) + 1 {
			for most := 1; most <= x.most; most++ {
				all, _ := enumerate.Satisfying(x.l, x.list[:n], most)
				got, e := bottomup.Find(x.l, x.list[:n], most)
				if len(all) == 0 && (e != api.ErrUnreal || !isZero(got)) || len(all) > 0 && (e != api.OK || write(got) != write(all[0])) {
					t.Fatalf("%s: %d of %d examples, up to %d: %s, %d", x.l.Name, n, len(x.list), most, write(got), e)
				}
			}
		}
	}
}

// P24.2: the examples of the document, outputs that no program has, and programs without an outcome.
func TestFindExamples(t *testing.T) {
	l, b, o := statetest.Sums(), statetest.Backwards(), statetest.Overflow()
	identity := statetest.Language("language identity\ninputs text\nsymbol S text\nrule S = in0\n")
	bools := statetest.Language("language bools\ninputs\nsymbol B bool\nsymbol I int\nrule B = eqint(I, I)\nrule I = add(I, I)\nrule I = 1000000\n")
	for i, x := range []struct {
		l    api.Language
		list []api.Example
		most int
		want string
	}{
		{identity, texts([2]string{"a", "a"}), 1, "in0"},
		{identity, texts([2]string{"a", "b"}), 1, ""},
		{identity, texts([2]string{"a", "b"}), api.MaxSize, ""},
		{identity, texts([2]string{"a", "a"}, [2]string{"b", "a"}), 1, ""},
		{l, []api.Example{number(2, 6), number(5, 15)}, 5, "add(in0, add(in0, in0))"},
		{l, []api.Example{number(2, 6), number(5, 15)}, 4, ""},
		{l, []api.Example{number(2, 6), number(5, 16)}, 9, ""},
		{l, []api.Example{number(0, 0)}, 5, "in0"},
		{l, nil, 1, "in0"},
		{l, []api.Example{}, 9, "in0"},
		{l, []api.Example{number(1, 12)}, api.MaxSize, "add(in0, add(in0, add(in0, add(in0, add(in0, add(in0, add(in0, add(in0, add(in0, add(in0, add(in0, in0)))))))))))"},
		{l, []api.Example{number(1, 13)}, api.MaxSize, ""},
		{b, []api.Example{number(0, 3), number(1, 3)}, 5, "add(add(1, 1), 1)"},
		{b, []api.Example{number(0, 2), number(1, 2)}, 5, "add(1, 1)"},
		{b, nil, 1, "1"},
		// An undefined outcome matches nothing, also not where the output is zero.
		{o, []api.Example{number(1, 0)}, 3, ""},
		{o, []api.Example{number(1, 999999)}, 4, "add(neg(in0), 1000000)"},
		{o, []api.Example{number(1000000, 0), number(-1, 1)}, 5, ""},
		{bools, []api.Example{{Output: value.OfBool(false)}}, 5, ""},
		{bools, []api.Example{{Output: value.OfBool(true)}}, 5, "eqint(1000000, 1000000)"},
		{statetest.Choices(), []api.Example{{Inputs: []api.Value{value.OfText("ada lovelace"), value.OfInt(1)}, Output: value.OfText("lovelace")}}, 4, "word(in0, in1)"},
		{statetest.Included("strings"), texts([2]string{"ada lovelace", "ADA"}, [2]string{"alan turing", "ALAN"}), 4, "upper(word(in0, 0))"},
		{statetest.Empty(), nil, api.MaxSize, ""},
		{statetest.Language("language late\ninputs\nsymbol S int\nsymbol A int\nrule S = neg(A)\nrule A = 1\n"), nil, 1, ""},
	} {
		got, e := bottomup.Find(x.l, x.list, x.most)
		if x.want == "" && (e != api.ErrUnreal || !isZero(got)) {
			t.Errorf("case %d: %s, %d", i, write(got), e)
		}
		if text, _ := notation.Print(x.l, got); x.want != "" && (e != api.OK || text != x.want) {
			t.Errorf("case %d: %s, %d", i, text, e)
		}
	}
}

// P24.2: errors in their order.
func TestFindErrors(t *testing.T) {
	l, text, tooGreat := statetest.Sums(), value.OfText("a"), int64(api.MaxInt+1)
	good, conflict := []api.Example{number(1, 2)}, []api.Example{number(1, 2), number(1, 3)}
	for i, x := range []struct {
		l    api.Language
		list []api.Example
		most int
		want api.Errno
	}{
		{l, good, 3, api.OK},
		{l, good, 1, api.ErrUnreal},
		{l, good, 0, api.ErrRange},
		{l, good, -1, api.ErrRange},
		{l, good, api.MaxSize + 1, api.ErrRange},
		{l, good, math.MinInt, api.ErrRange},
		{l, good, math.MaxInt, api.ErrRange},
		{l, nil, 0, api.ErrRange},
		{l, good, api.MaxSize, api.OK},
		{l, conflict, 3, api.ErrConflict},
		{l, conflict, 0, api.ErrConflict},
		{l, []api.Example{number(1, tooGreat)}, 99, api.ErrRange},
		{l, []api.Example{number(tooGreat, 1)}, 1, api.ErrRange},
		{l, []api.Example{{Inputs: []api.Value{text}, Output: text}}, 99, api.ErrType},
		{l, []api.Example{{Inputs: []api.Value{value.OfInt(1)}, Output: text}}, 99, api.ErrType},
		{l, []api.Example{{Output: text}}, 99, api.ErrSize},
		{l, slices.Repeat(good, api.MaxExamples), 3, api.OK},
		{l, slices.Repeat(good, api.MaxExamples+1), 0, api.ErrSize},
		{manyOptions(2), []api.Example{{Output: value.OfInt(1)}}, 25, api.ErrRange},
		{manyOptions(2), []api.Example{{Output: value.OfInt(1)}, {Output: value.OfInt(2)}}, 7, api.ErrConflict},
		{manyOptions(2), []api.Example{{Output: value.OfInt(9)}}, 7, api.ErrLimit},
		{manyOptions(2), []api.Example{{Output: value.OfInt(9)}}, 6, api.ErrUnreal},
	} {
		if got, e := bottomup.Find(x.l, x.list, x.most); e != x.want || e != api.OK && !isZero(got) {
			t.Errorf("case %d: %s, %d, not %d", i, write(got), e, x.want)
		}
		if e := example.Check(x.l, x.list); e != api.OK && e != x.want {
			t.Errorf("case %d: %d", i, e)
		}
	}
	for _, l := range statetest.Invalid() {
		for _, list := range [][]api.Example{nil, good, conflict} {
			if got, e := bottomup.Find(l, list, 0); e == api.OK || e != grammar.Check(l) || !isZero(got) {
				t.Errorf("%s: %s, %d", l.Name, write(got), e)
			}
		}
	}
}
