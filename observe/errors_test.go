package observe_test

import (
	"math"
	"testing"

	"synthesis/api"
	"synthesis/grammar"
	"synthesis/observe"
	"synthesis/statetest"
	"synthesis/value"
)

// checkTerms checks that the functions of terms return this error for a list of terms, and zero values with an error.
func checkTerms(t *testing.T, l api.Language, list []api.Term, tuples [][]api.Value, want api.Errno) {
	t.Helper()
	if c, e := observe.Classes(l, list, tuples); e != want || e != api.OK && len(c) > 0 {
		t.Errorf("Classes is %v, %d, not %d", c, e, want)
	}
	if s, e := observe.Splits(l, list, tuples); e != want || e != api.OK && len(s) > 0 {
		t.Errorf("Splits is %v, %d, not %d", s, e, want)
	}
	if len(list) == 1 {
		if k, e := observe.Key(l, list[0], tuples); e != want || e != api.OK && k != "" {
			t.Errorf("Key is %q, %d, not %d", k, e, want)
		}
	}
	if len(list) == 2 {
		if is, e := observe.Same(l, list[0], list[1], tuples); e != want || e != api.OK && is {
			t.Errorf("Same is %t, %d, not %d", is, e, want)
		}
	}
}

// P22.1, P22.2, P22.3: the errors of terms and tuples, in their order.
func TestTermErrors(t *testing.T) {
	l := statetest.Choices()
	good := program(l, "word(in0, in1)")
	endless := api.Term{Args: make([]api.Term, 1)}
	endless.Args[0] = endless
	x, y := value.OfText("a"), value.OfInt(1)
	fine, short, wrong, tooGreat := []api.Value{x, y}, []api.Value{x}, []api.Value{y, y}, []api.Value{x, value.OfInt(api.MaxInt + 1)}
	for i, c := range []struct {
		list   []api.Term
		tuples [][]api.Value
		want   api.Errno
	}{
		{[]api.Term{good}, [][]api.Value{fine, fine}, api.OK},
		{[]api.Term{good, good}, nil, api.OK},
		{nil, [][]api.Value{fine}, api.OK},
		{[]api.Term{leaf(10)}, nil, api.ErrRange},
		{[]api.Term{leaf(-1)}, nil, api.ErrRange},
		{[]api.Term{leaf(math.MinInt)}, nil, api.ErrRange},
		{[]api.Term{leaf(math.MaxInt)}, nil, api.ErrRange},
		{[]api.Term{leaf(0)}, nil, api.ErrForm},
		{[]api.Term{nested(0, 1, leaf(99))}, nil, api.ErrRange},
		{[]api.Term{nested(0, 1, leaf(4))}, nil, api.ErrType},
		{[]api.Term{endless}, nil, api.ErrSize},
		{[]api.Term{nested(0, api.MaxDepth, leaf(2))}, nil, api.ErrSize},
		// The own rule of the term comes before its size.
		{[]api.Term{{Rule: 10, Args: endless.Args}}, nil, api.ErrRange},
		// The first term with an error counts, then the first tuple with one.
		{[]api.Term{good, leaf(0)}, nil, api.ErrForm},
		{[]api.Term{leaf(0), leaf(-1)}, nil, api.ErrForm},
		{[]api.Term{leaf(-1), leaf(0)}, nil, api.ErrRange},
		{[]api.Term{endless, leaf(-1)}, nil, api.ErrSize},
		{[]api.Term{good, good, leaf(0), leaf(-1)}, [][]api.Value{short}, api.ErrForm},
		{[]api.Term{leaf(0)}, [][]api.Value{short}, api.ErrForm},
		{[]api.Term{leaf(-1)}, [][]api.Value{short}, api.ErrRange},
		{[]api.Term{good, leaf(0)}, [][]api.Value{short}, api.ErrForm},
		{[]api.Term{good}, [][]api.Value{short}, api.ErrSize},
		{[]api.Term{good}, [][]api.Value{nil}, api.ErrSize},
		{[]api.Term{good, good}, [][]api.Value{fine, wrong, short}, api.ErrType},
		{[]api.Term{good, good}, [][]api.Value{fine, tooGreat, short}, api.ErrRange},
		{[]api.Term{good}, [][]api.Value{fine, short, tooGreat}, api.ErrSize},
		{[]api.Term{leaf(7)}, [][]api.Value{wrong}, api.ErrType},
		{nil, [][]api.Value{fine, wrong}, api.ErrType},
		{nil, [][]api.Value{nil}, api.ErrSize},
	} {
		if checkTerms(t, l, c.list, c.tuples, c.want); t.Failed() {
			t.Fatalf("case %d", i)
		}
	}
	for _, l := range statetest.Invalid() {
		for _, list := range [][]api.Term{nil, {leaf(0)}, {leaf(0), leaf(9)}, {endless, endless}} {
			for _, tuples := range [][][]api.Value{nil, {short}} {
				checkTerms(t, l, list, tuples, grammar.Check(l))
			}
		}
		if grammar.Check(l) == api.OK {
			t.Error(l)
		}
	}
}

// P22.4: errors in their order.
func TestCountErrors(t *testing.T) {
	l, bad := statetest.Sums(), [][]api.Value{{value.OfInt(1)}, {value.OfText("a")}, nil}
	many, one := statetest.ManyStates(2), [][]api.Value{nil}
	for i, x := range []struct {
		l            api.Language
		symbol, most int
		tuples       [][]api.Value
		want         api.Errno
	}{
		{l, 0, 1, nil, api.OK},
		{l, 0, api.MaxSize, nil, api.OK},
		{l, 1, 3, bad, api.ErrRange},
		{l, -1, 3, bad, api.ErrRange},
		{l, math.MinInt, 3, nil, api.ErrRange},
		{l, math.MaxInt, 3, nil, api.ErrRange},
		{l, 0, 0, bad, api.ErrRange},
		{l, 0, -1, bad, api.ErrRange},
		{l, 0, api.MaxSize + 1, bad, api.ErrRange},
		{l, 0, math.MinInt, nil, api.ErrRange},
		{l, 0, math.MaxInt, nil, api.ErrRange},
		{l, 0, 3, bad, api.ErrType},
		{l, 0, 3, bad[2:], api.ErrSize},
		{l, 0, api.MaxSize, bad, api.ErrType},
		{many, 4, 3, one, api.ErrRange},
		{many, 0, 25, one, api.ErrRange},
		{many, 0, 3, bad, api.ErrSize},
		{many, 0, 3, one, api.ErrLimit},
		{many, 0, 2, one, api.OK},
	} {
		if n, e := observe.Count(x.l, x.symbol, x.most, x.tuples); e != x.want || (n > 0) != (e == api.OK) {
			t.Errorf("case %d: %d, %d, not %d", i, n, e, x.want)
		}
	}
	for _, l := range statetest.Invalid() {
		for _, n := range []int{1, 0, -1, 99} {
			if got, e := observe.Count(l, n, n, bad); got != 0 || e == api.OK || e != grammar.Check(l) {
				t.Errorf("%d, %d", got, e)
			}
		}
	}
}
