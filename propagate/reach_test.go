package propagate_test

import (
	"math"
	"slices"
	"testing"

	"synthesis/api"
	"synthesis/grammar"
	"synthesis/propagate"
	"synthesis/statetest"
	"synthesis/value"
)

// P30.2: the outputs of all small terms of all symbols, up to all smaller bounds, and of those of other symbols with the same type.
func TestReachable(t *testing.T) {
	for _, x := range statetest.Families() {
		for n := range len(x.Tuples) + 1 {
			tuples, o := x.Tuples[:n], statetest.OracleOf(x.Language)
			most := x.Most - 3
			leastOf := make([]map[string]int, len(x.Language.Symbols))
			all := make([]map[string][]api.Value, api.Pattern+1)
			for symbol, y := range x.Language.Symbols {
				leastOf[symbol] = map[string]int{}
				if all[y.Type] == nil {
					all[y.Type] = map[string][]api.Value{}
				}
				for size := 1; size <= most; size++ {
					for _, z := range o.Terms(symbol, size) {
						outputs, isDefined := outputsOf(x.Language, z, tuples)
						if _, isKnown := leastOf[symbol][keyOf(outputs)]; isDefined && !isKnown && len(leastOf[symbol]) < 12 {
							leastOf[symbol][keyOf(outputs)] = size
							all[y.Type][keyOf(outputs)] = outputs
						}
					}
				}
			}
			for symbol, y := range x.Language.Symbols {
				checkReachable(t, x.Language, symbol, all[y.Type], tuples, most)
			}
		}
	}
}

// checkReachable compares Reachable for lists of outputs with the terms that have them.
func checkReachable(t *testing.T, l api.Language, symbol int, lists map[string][]api.Value, tuples [][]api.Value, most int) {
	t.Helper()
	g := statetest.GraphOf(l, tuples, most)
	for key, outputs := range lists {
		isReached := false
		for size := 1; size <= most; size++ {
			_, isThere := g.States[statetest.Triple{Symbol: symbol, Size: size, Key: key}]
			isReached = isReached || isThere
			if got, e := propagate.Reachable(l, symbol, outputs, tuples, size); e != api.OK || got != isReached {
				t.Fatalf("%s: %v of %d up to %d: %t, %d", l.Name, outputs, symbol, size, got, e)
			}
		}
	}
}

// P30.2: the examples of the document, undefined outcomes, and great bounds.
func TestReachableExamples(t *testing.T) {
	p, o := parts(), statetest.Overflow()
	p.Rules = p.Rules[:3]
	late := statetest.Language("language late\ninputs\nsymbol S int\nsymbol A int\nsymbol N int\nrule S = neg(A)\nrule A = 1\nrule N = neg(N)\n")
	one := [][]api.Value{nil}
	for i, x := range []struct {
		l       api.Language
		symbol  int
		outputs []api.Value
		tuples  [][]api.Value
		most    int
		want    bool
	}{
		{p, 0, of(s("ab")), [][]api.Value{of(s("b"))}, 3, true},
		{p, 0, of(s("ab")), [][]api.Value{of(s("b"))}, 2, false},
		{p, 0, of(s("ab")), [][]api.Value{of(s("b"))}, 4, true},
		{p, 0, of(s("ab"), s("aa")), [][]api.Value{of(s("b")), of(s("a"))}, 3, true},
		{p, 0, of(s("ab"), s("ab")), [][]api.Value{of(s("b")), of(s("a"))}, 5, false},
		{p, 0, nil, nil, 1, true},
		{p, 0, of(), [][]api.Value{}, 7, true},
		{late, 0, nil, nil, 1, false},
		{late, 0, nil, nil, 2, true},
		{late, 1, nil, nil, 1, true},
		{late, 2, nil, nil, api.MaxSize, false},
		{late, 0, of(n(-1)), one, 2, true},
		{late, 0, of(n(1)), one, api.MaxSize, false},
		{late, 1, of(n(1)), one, 1, true},
		{late, 2, of(n(1)), one, api.MaxSize, false},
		// Some programs are undefined for 1.
		{o, 0, of(n(0)), statetest.Numbers(1), 3, false},
		{o, 0, of(n(0)), statetest.Numbers(1), 4, true},
		{o, 0, of(n(999999)), statetest.Numbers(1), 4, true},
		{o, 0, of(n(999999)), statetest.Numbers(1), 3, false},
		{o, 1, of(n(1)), statetest.Numbers(1), 3, true},
		{statetest.Language("language doubling\ninputs int\nsymbol S int\nrule S = in0\nrule S = add(S, S)\n"), 0, of(n(12)), statetest.Numbers(1), api.MaxSize, true},
		{statetest.Language("language doubling\ninputs int\nsymbol S int\nrule S = in0\nrule S = add(S, S)\n"), 0, of(n(13)), statetest.Numbers(1), api.MaxSize, false},
	} {
		if got, e := propagate.Reachable(x.l, x.symbol, x.outputs, x.tuples, x.most); e != api.OK || got != x.want {
			t.Errorf("case %d: %t, %d", i, got, e)
		}
	}
}

// P30.2: exactly as many states and options as the limits permit, and one more. Neither the symbol nor an output that is found at once makes a difference.
func TestReachableLimits(t *testing.T) {
	for i, x := range statetest.Limits() {
		for symbol, y := range x.Language.Symbols {
			for _, out := range valuesOf(y.Type)[:2] {
				outputs := slices.Repeat(of(out), len(x.Tuples))
				want := api.OK
				if x.States > api.MaxNodes || x.Options > api.MaxOptions {
					want = api.ErrLimit
				}
				is, e := propagate.Reachable(x.Language, symbol, outputs, x.Tuples, x.Most)
				if isOne := symbol == 0 && (len(outputs) == 0 || out.Num == 1); e != want || isOne && is != (e == api.OK) || e != api.OK && is {
					t.Errorf("case %d: %v of %d: %t, %d, not %d", i, out, symbol, is, e, want)
				}
			}
		}
	}
}

// A call has the arguments of Reachable and Needs.
type call struct {
	l       api.Language
	symbol  int
	outputs []api.Value
	tuples  [][]api.Value
	most    int
}

// checkErrors checks that Reachable returns this error, and Needs as well unless it is that of the bound or of the limits; and no result with an error.
func checkErrors(t *testing.T, x call, want api.Errno, isOfReachable bool) {
	t.Helper()
	if is, e := propagate.Reachable(x.l, x.symbol, x.outputs, x.tuples, x.most); e != want || e != api.OK && is {
		t.Errorf("Reachable is %t, %d, not %d", is, e, want)
	}
	if isOfReachable {
		want = api.OK
	}
	if need, e := propagate.Needs(x.l, x.symbol, x.outputs, x.tuples); e != want || e != api.OK && need != 0 {
		t.Errorf("Needs is %d, %d, not %d", need, e, want)
	}
}

// P30.2, P30.3: errors in their order.
func TestErrors(t *testing.T) {
	lang, many := parts(), statetest.ManyStates(2)
	good, wrong, none := of(s("b")), of(n(1)), of()
	invalid := of(api.Value{Type: api.Text, Text: "\n"})
	for i, x := range []struct {
		call
		want          api.Errno
		isOfReachable bool
	}{
		{call{lang, 0, good, [][]api.Value{good}, 3}, api.OK, false},
		{call{lang, -1, good, nil, 0}, api.ErrRange, false},
		{call{lang, 1, good, nil, 0}, api.ErrRange, false},
		{call{lang, math.MinInt, good, nil, 3}, api.ErrRange, false},
		{call{lang, math.MaxInt, good, nil, 3}, api.ErrRange, false},
		{call{lang, 0, good, nil, 0}, api.ErrSize, false},
		{call{lang, 0, nil, [][]api.Value{good}, 0}, api.ErrSize, false},
		{call{lang, 0, wrong, [][]api.Value{good, good}, 3}, api.ErrSize, false},
		{call{lang, 0, wrong, [][]api.Value{none}, 0}, api.ErrType, false},
		{call{lang, 0, invalid, [][]api.Value{none}, 0}, api.ErrRange, false},
		{call{lang, 0, append(of(s("a")), api.Value{}), [][]api.Value{none, none}, 0}, api.ErrType, false},
		{call{lang, 0, append(of(wrong...), invalid...), [][]api.Value{none, good}, 0}, api.ErrType, false},
		{call{lang, 0, append(of(invalid...), wrong...), [][]api.Value{none, good}, 0}, api.ErrRange, false},
		{call{lang, 0, good, [][]api.Value{none}, 0}, api.ErrSize, false},
		{call{lang, 0, good, [][]api.Value{wrong}, 0}, api.ErrType, false},
		{call{lang, 0, good, [][]api.Value{invalid}, 0}, api.ErrRange, false},
		{call{lang, 0, append(of(good...), good...), [][]api.Value{wrong, none}, 3}, api.ErrType, false},
		{call{lang, 0, append(of(good...), good...), [][]api.Value{good, none}, 3}, api.ErrSize, false},
		{call{lang, 0, good, [][]api.Value{good}, 0}, api.ErrRange, true},
		{call{lang, 0, good, [][]api.Value{good}, -1}, api.ErrRange, true},
		{call{lang, 0, good, [][]api.Value{good}, api.MaxSize + 1}, api.ErrRange, true},
		{call{lang, 0, good, [][]api.Value{good}, math.MinInt}, api.ErrRange, true},
		{call{lang, 0, good, [][]api.Value{good}, math.MaxInt}, api.ErrRange, true},
		{call{lang, 0, nil, nil, 0}, api.ErrRange, true},
		{call{many, 0, of(n(1)), [][]api.Value{nil}, 0}, api.ErrRange, true},
		{call{many, 0, of(n(1)), [][]api.Value{nil}, 3}, api.ErrLimit, true},
		{call{many, 0, of(n(1)), [][]api.Value{nil}, 2}, api.OK, false},
	} {
		if checkErrors(t, x.call, x.want, x.isOfReachable); t.Failed() {
			t.Fatalf("case %d", i)
		}
	}
	for _, lang := range statetest.Invalid() {
		for _, symbol := range []int{-1, 0, 99} {
			checkErrors(t, call{lang, symbol, wrong, nil, 0}, grammar.Check(lang), false)
			checkErrors(t, call{lang, symbol, invalid, [][]api.Value{none}, 3}, grammar.Check(lang), false)
		}
	}
}

// DOC.md, rule 5: arguments stay as they are.
func TestArguments(t *testing.T) {
	for i, x := range statetest.Families() {
		for symbol, y := range x.Language.Symbols {
			for _, out := range valuesOf(y.Type) {
				outputs := slices.Repeat(of(out), len(x.Tuples))
				propagate.Reachable(x.Language, symbol, outputs, x.Tuples, 4)
				propagate.Needs(x.Language, symbol, outputs, x.Tuples)
				if !equalValues(outputs, slices.Repeat(of(out), len(x.Tuples))) {
					t.Errorf("%v is changed", outputs)
				}
			}
		}
		same := statetest.Families()[i]
		areEqual := func(a, b []api.Value) bool { return slices.EqualFunc(a, b, value.Equal) }
		if !grammar.Same(x.Language, same.Language) || !slices.EqualFunc(x.Tuples, same.Tuples, areEqual) {
			t.Errorf("%s: an argument is changed", x.Language.Name)
		}
	}
}
