package observe_test

import (
	"testing"

	"synthesis/api"
	"synthesis/observe"
	"synthesis/statetest"
)

// checkCount compares Count for all symbols with the state graph.
func checkCount(t *testing.T, l api.Language, most int, tuples [][]api.Value) statetest.Graph {
	t.Helper()
	g := statetest.GraphOf(l, tuples, most)
	for symbol := range l.Symbols {
		want, wantErrno := len(g.Keys(symbol)), api.OK
		if !g.IsWithinLimits() {
			want, wantErrno = 0, api.ErrLimit
		}
		if n, e := observe.Count(l, symbol, most, tuples); n != want || e != wantErrno {
			t.Fatalf("%s: Count of %d, %d is %d, %d, not %d, %d (%d states, %d options)", l.Name, symbol, most, n, e, want, wantErrno, len(g.States), g.Options)
		}
	}
	return g
}

// P22.4: all small terms of all symbols.
func TestCount(t *testing.T) {
	all := statetest.IncludedFamilies()
	for _, x := range statetest.Own() {
		for _, tuples := range [][][]api.Value{x.Tuples, x.Tuples[:1], nil} {
			all = append(all, statetest.Family{Language: x.Language, Tuples: tuples, Most: 6})
		}
	}
	for _, x := range all {
		for most := 1; most <= x.Most; most++ {
			if g := checkCount(t, x.Language, most, x.Tuples); !g.IsWithinLimits() {
				t.Errorf("%s: %d states, %d options", x.Language.Name, len(g.States), g.Options)
			}
		}
	}
}

// P22.4: the examples, undefined outcomes, and symbols that have no term, or none that is small enough.
func TestCountExamples(t *testing.T) {
	l, o, c := statetest.Sums(), statetest.Overflow(), statetest.Choices()
	for i, x := range []struct {
		l            api.Language
		symbol, most int
		tuples       [][]api.Value
		want         int
	}{
		{l, 0, 3, statetest.Numbers(1), 3},
		{l, 0, 3, statetest.Numbers(0), 1},
		{l, 0, 3, nil, 1},
		{l, 0, 1, nil, 1},
		{l, 0, 1, statetest.Numbers(1), 2},
		{l, 0, 2, statetest.Numbers(1), 2},
		{l, 0, 5, statetest.Numbers(1), 4},
		// The sum of six inputs is undefined.
		{l, 0, 9, statetest.Numbers(200000), 6},
		{l, 0, 11, statetest.Numbers(200000), 7},
		{l, 0, api.MaxSize, statetest.Numbers(200000), 7},
		// The input, 1000000 and their opposites; then the sum of two inputs, and an undefined sum.
		{o, 0, 2, statetest.Numbers(1), 4},
		{o, 0, 3, statetest.Numbers(1), 6},
		{c, 3, 9, nil, 0},
		{c, 2, 2, nil, 1},
	} {
		if n, e := observe.Count(x.l, x.symbol, x.most, x.tuples); e != api.OK || n != x.want {
			t.Errorf("case %d: %d, %d, not %d", i, n, e, x.want)
		}
	}
}

// P22.5: the number does not decrease if the bound grows, or a tuple is added.
func TestCountGrows(t *testing.T) {
	for _, x := range families() {
		for symbol := range x.l.Symbols {
			var before [api.MaxSize + 1]int
			for n := range len(x.tuples) + 1 {
				smaller := 0
				for most := 1; most <= 7; most++ {
					count, e := observe.Count(x.l, symbol, most, x.tuples[:n])
					if e == api.OK && (count < smaller || count < before[most]) {
						t.Fatalf("%s: Count of %d, %d is %d for %d tuples, after %d and %d", x.l.Name, symbol, most, count, n, smaller, before[most])
					}
					smaller = count
					before[most] = count
				}
			}
		}
	}
}

// P22.4: exactly as many states and options as the limits permit, and one more. Symbols count that the start symbol does not derive.
func TestCountLimits(t *testing.T) {
	for i, x := range statetest.Limits() {
		checkCount(t, x.Language, x.Most, x.Tuples)
		if t.Failed() {
			t.Errorf("case %d", i)
		}
	}
}

// P22.4: a greater bound changes nothing for a language without recursion, and a lesser one may leave fewer states and options.
func TestCountBounds(t *testing.T) {
	one := [][]api.Value{nil}
	for i, x := range []struct {
		l    api.Language
		most int
		want api.Errno
	}{
		{statetest.ManyStates(1), api.MaxSize, api.OK},
		{statetest.ManyStates(2), api.MaxSize, api.ErrLimit},
		{statetest.ManyStates(2), 2, api.OK},
		{statetest.ManyOptions(1), api.MaxSize, api.OK},
		{statetest.ManyOptions(2), api.MaxSize, api.ErrLimit},
		{statetest.ManyOptions(2), 3, api.OK},
	} {
		for symbol := range x.l.Symbols {
			if n, e := observe.Count(x.l, symbol, x.most, one); e != x.want || e != api.OK && n != 0 {
				t.Errorf("case %d: %d, %d", i, n, e)
			}
		}
	}
}

// P22.4: languages with far more states and options than the limits permit.
func TestCountFarBeyondLimits(t *testing.T) {
	for _, x := range statetest.IncludedFamilies() {
		for symbol := range x.Language.Symbols {
			if n, e := observe.Count(x.Language, symbol, api.MaxSize, x.Tuples); n != 0 || e != api.ErrLimit {
				t.Errorf("%s: %d, %d", x.Language.Name, n, e)
			}
		}
	}
}
