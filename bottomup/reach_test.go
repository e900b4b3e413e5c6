package bottomup_test

import (
	"math"
	"slices"
	"testing"

	"synthesis/api"
	"synthesis/bottomup"
	"synthesis/grammar"
	"synthesis/statetest"
	"synthesis/value"
)

// P24.3: the outcomes of all programs on each tuple, with different tuples behind it.
func TestReach(t *testing.T) {
	for _, x := range families() {
		for n := range x.tuples {
			for most := 1; most <= x.most; most++ {
				want := reached(x.l, x.tuples[n], most)
				for _, tuples := range [][][]api.Value{x.tuples[n : n+1], x.tuples[n:], append([][]api.Value{x.tuples[n]}, x.tuples[:n]...)} {
					if got, e := bottomup.Reach(x.l, tuples, most); e != api.OK || !equalOutcomes(got, want) {
						t.Fatalf("%s: Reach of %v up to %d is %v, %d, not %v", x.l.Name, tuples, most, got, e, want)
					}
				}
			}
		}
	}
}

// P24.3: undefined outcomes are outcomes, and a start symbol without terms has none.
func TestReachExamples(t *testing.T) {
	undefined := api.Outcome{Errno: api.ErrUndefined}
	of := func(n int64) api.Outcome { return api.Outcome{Value: value.OfInt(n)} }
	for i, x := range []struct {
		l      api.Language
		tuples [][]api.Value
		most   int
		want   []api.Outcome
	}{
		{statetest.Sums(), statetest.Numbers(1), 5, []api.Outcome{of(1), of(0), of(2), of(3)}},
		{statetest.Sums(), statetest.Numbers(0, 1), 5, []api.Outcome{of(0)}},
		{statetest.Sums(), statetest.Numbers(400000, 1), 7, []api.Outcome{of(400000), of(0), of(800000), undefined}},
		{statetest.Sums(), statetest.Numbers(1000000), 7, []api.Outcome{of(1000000), of(0), undefined}},
		{statetest.Backwards(), statetest.Numbers(3), 2, []api.Outcome{of(1), of(3), of(-1), of(-3)}},
		// The sums of equal ones come first.
		{statetest.Backwards(), statetest.Numbers(3), 3, []api.Outcome{of(1), of(3), of(-1), of(-3), of(2), of(4), of(6)}},
		{statetest.Empty(), statetest.Numbers(3), 3, nil},
		{statetest.ManyStates(2), [][]api.Value{nil}, 2, []api.Outcome{of(1), of(2)}},
	} {
		if got, e := bottomup.Reach(x.l, x.tuples, x.most); e != api.OK || !equalOutcomes(got, x.want) {
			t.Errorf("case %d: %v, %d, not %v", i, got, e, x.want)
		}
	}
}

// P24.3: the class graph of all tuples must be within the limits, not only that of the first one.
func TestReachLimits(t *testing.T) {
	l, plain, rich := statetest.Included("strings"), []api.Value{value.OfText("")}, []api.Value{value.OfText("ada lovelace")}
	for i, x := range []struct {
		tuples [][]api.Value
		want   api.Errno
	}{
		{[][]api.Value{plain}, api.OK},
		{[][]api.Value{plain, plain}, api.OK},
		{[][]api.Value{plain, rich}, api.ErrLimit},
		{[][]api.Value{rich, plain}, api.ErrLimit},
	} {
		got, e := bottomup.Reach(l, x.tuples, 8)
		if e != x.want || (len(got) > 0) != (e == api.OK) {
			t.Errorf("case %d: %d outcomes, %d", i, len(got), e)
		}
		if _, e := bottomup.Build(l, x.tuples, 8); e != x.want {
			t.Errorf("case %d: %d", i, e)
		}
	}
}

// P24.1, P24.3, P24.4: errors in their order.
func TestErrors(t *testing.T) {
	l, many := statetest.Sums(), statetest.ManyStates(2)
	bad := [][]api.Value{{value.OfInt(1)}, {value.OfText("a")}, nil}
	one := [][]api.Value{nil}
	for i, x := range []struct {
		l      api.Language
		tuples [][]api.Value
		most   int
		want   api.Errno
	}{
		{l, statetest.Numbers(1), 1, api.OK},
		{l, statetest.Numbers(1), api.MaxSize, api.OK},
		{l, nil, 1, api.OK},
		{l, nil, 0, api.ErrRange},
		{l, statetest.Numbers(1), 0, api.ErrRange},
		{l, statetest.Numbers(1), -1, api.ErrRange},
		{l, statetest.Numbers(1), api.MaxSize + 1, api.ErrRange},
		{l, statetest.Numbers(1), math.MinInt, api.ErrRange},
		{l, statetest.Numbers(1), math.MaxInt, api.ErrRange},
		{l, bad, 3, api.ErrType},
		{l, bad, 0, api.ErrType},
		{l, bad[2:], 99, api.ErrSize},
		{l, [][]api.Value{nil, {value.OfText("a")}}, 99, api.ErrSize},
		{l, statetest.Numbers(1, api.MaxInt+1), 0, api.ErrRange},
		{l, append(statetest.Numbers(1, 2, api.MaxInt+1), nil), 3, api.ErrRange},
		{l, append(statetest.Numbers(1, 2), nil, []api.Value{value.OfInt(api.MaxInt + 1)}), 3, api.ErrSize},
		{many, bad, 3, api.ErrSize},
		{many, one, 25, api.ErrRange},
		{many, nil, 25, api.ErrRange},
		{many, one, 3, api.ErrLimit},
		{many, one, 2, api.OK},
	} {
		checkErrors(t, x.l, x.tuples, x.most, x.want)
		if t.Failed() {
			t.Fatalf("case %d", i)
		}
	}
	for _, l := range statetest.Invalid() {
		for _, tuples := range [][][]api.Value{nil, statetest.Numbers(1), bad} {
			for _, most := range []int{1, 0, 99} {
				if checkErrors(t, l, tuples, most, grammar.Check(l)); grammar.Check(l) == api.OK || t.Failed() {
					t.Fatalf("%s: %v, %d", l.Name, tuples, most)
				}
			}
		}
	}
}

// checkErrors checks that Build, Rounds and Reach return this error, and no result with an error. Without tuples, Reach returns ErrSize where the others return no error.
func checkErrors(t *testing.T, l api.Language, tuples [][]api.Value, most int, want api.Errno) {
	t.Helper()
	if b, e := bottomup.Build(l, tuples, most); e != want || e != api.OK && len(b.Terms) > 0 {
		t.Errorf("Build is %d, not %d", e, want)
	}
	if r, e := bottomup.Rounds(l, tuples, most); e != want || e != api.OK && len(r) > 0 {
		t.Errorf("Rounds is %v, %d, not %d", r, e, want)
	}
	if len(tuples) == 0 && want == api.OK {
		want = api.ErrSize
	}
	if o, e := bottomup.Reach(l, tuples, most); e != want || e != api.OK && len(o) > 0 {
		t.Errorf("Reach is %v, %d, not %d", o, e, want)
	}
}

// P24.3: the lack of tuples is an error after that of the bound.
func TestReachWithoutTuples(t *testing.T) {
	for _, x := range families() {
		for _, tuples := range [][][]api.Value{nil, {}} {
			if o, e := bottomup.Reach(x.l, tuples, x.most); e != api.ErrSize || len(o) > 0 {
				t.Errorf("%s: %v, %d", x.l.Name, o, e)
			}
			if o, e := bottomup.Reach(x.l, slices.Clone(tuples), 0); e != api.ErrRange || len(o) > 0 {
				t.Errorf("%s: %v, %d", x.l.Name, o, e)
			}
		}
	}
}
