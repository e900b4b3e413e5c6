package inverse_test

import (
	"math"
	"slices"
	"strings"
	"testing"

	"synthesis/api"
	"synthesis/inverse"
	"synthesis/operator"
	"synthesis/value"
)

type givenCase struct {
	name  string
	out   api.Value
	at    int
	known []api.Value
	want  []api.Value
	e     api.Errno
}

func checkGivenCases(t *testing.T, cases []givenCase) {
	t.Helper()
	for _, x := range cases {
		if got, e := inverse.Given(x.name, x.out, x.at, x.known); !same(got, x.want) || e != x.e {
			t.Errorf("%s: %v, argument %d, with %v: %v, %d, not %v, %d", x.name, x.out, x.at, x.known, got, e, x.want, x.e)
		}
	}
}

// P10.3: examples, and the edges of the ranges.
func TestGiven(t *testing.T) {
	checkGivenCases(t, []givenCase{
		{"add", n(3), 0, of(n(5)), of(n(-2)), api.OK},
		{"add", n(3), 1, of(n(5)), of(n(-2)), api.OK},
		{"add", n(1000000), 0, of(n(-1)), nil, api.OK},
		{"add", n(1000000), 1, of(n(0)), of(n(1000000)), api.OK},
		{"sub", n(3), 0, of(n(5)), of(n(8)), api.OK},
		{"sub", n(3), 1, of(n(5)), of(n(2)), api.OK},
		{"sub", n(-1000000), 0, of(n(-1)), nil, api.OK},
		{"sub", n(-1000000), 1, of(n(1)), nil, api.OK},
		{"mul", n(6), 1, of(n(-3)), of(n(-2)), api.OK},
		{"mul", n(7), 1, of(n(-3)), nil, api.OK},
		{"mul", n(0), 0, of(n(5)), of(n(0)), api.OK},
		{"mul", n(0), 0, of(n(0)), nil, api.ErrMany},
		{"mul", n(0), 1, of(n(0)), nil, api.ErrMany},
		{"mul", n(1), 0, of(n(0)), nil, api.OK},
		{"and", no, 0, of(no), of(no, yes), api.OK},
		{"and", yes, 1, of(no), nil, api.OK},
		{"or", yes, 1, of(yes), of(no, yes), api.OK},
		{"not", yes, 0, nil, of(no), api.OK},
		{"neg", n(3), 0, of(), of(n(-3)), api.OK},
		{"concat", s("ab"), 0, of(s("b")), of(s("a")), api.OK},
		{"concat", s("ab"), 1, of(s("b")), nil, api.OK},
		{"concat", s("aba"), 1, of(s("a")), of(s("ba")), api.OK},
		{"concat", s("aba"), 0, of(s("aba")), of(s("")), api.OK},
		{"concat", s("ab"), 0, of(s("xab")), nil, api.OK},
		{"upper", s("A1"), 0, nil, of(s("A1"), s("a1")), api.OK},
		{"upper", s("ABCDEFGHI"), 0, nil, nil, api.ErrMany},
		{"lower", s("A"), 0, nil, nil, api.OK},
		{"show", s("7"), 0, nil, of(n(7)), api.OK},
		{"read", n(7), 0, nil, of(s("7")), api.OK},
		{"revtexts", ls("a", "b"), 0, nil, of(ls("b", "a")), api.OK},
		{"reverse", l(1, 2), 0, nil, of(l(2, 1)), api.OK},
		{"append", l(1, 2, 3), 0, of(l(2, 3)), of(l(1)), api.OK},
		{"append", l(1, 2, 3), 1, of(l(1)), of(l(2, 3)), api.OK},
		{"append", l(1, 2, 3), 1, of(l(2)), nil, api.OK},
		{"append", l(1), 1, of(l(1, 2)), nil, api.OK},
		{"running", l(1, 3), 0, nil, of(l(1, 2)), api.OK},
		{"running", l(1000000, -1), 0, nil, nil, api.OK},
		{"bnot", v(1), 0, nil, of(v(254)), api.OK},
		{"bsub", v(3), 0, of(v(254)), of(v(1)), api.OK},
		{"bsub", v(3), 1, of(v(1)), of(v(254)), api.OK},
		{"bmul", v(4), 0, of(v(2)), of(v(2), v(130)), api.OK},
		{"bmul", v(0), 1, of(v(0)), allBits(), api.OK},
		{"band", v(0), 1, of(v(0)), allBits(), api.OK},
	})
}

// P10.3: shift and scale.
func TestGivenLists(t *testing.T) {
	full := slices.Repeat([]int64{2}, 16)
	checkGivenCases(t, []givenCase{
		{"shift", l(3, 4), 0, of(n(2)), of(l(1, 2)), api.OK},
		{"shift", l(3, -1000000), 0, of(n(1)), nil, api.OK},
		{"shift", l(), 0, of(n(2)), of(l()), api.OK},
		{"shift", l(3, 4), 1, of(l(1, 2)), of(n(2)), api.OK},
		{"shift", l(3, 4), 1, of(l(1, 1)), nil, api.OK},
		{"shift", l(3, 4), 1, of(l(1)), nil, api.OK},
		{"shift", l(3), 1, of(l(1, 1)), nil, api.OK},
		{"shift", l(1000000), 1, of(l(-1)), nil, api.OK},
		{"shift", l(1000000), 1, of(l(0)), of(n(1000000)), api.OK},
		{"shift", l(), 1, of(l()), nil, api.ErrMany},
		{"shift", l(), 1, of(l(1)), nil, api.OK},
		{"shift", l(1), 1, of(l()), nil, api.OK},
		{"scale", l(4, 6), 0, of(n(2)), of(l(2, 3)), api.OK},
		{"scale", l(4, 7), 0, of(n(2)), nil, api.OK},
		{"scale", l(0), 0, of(n(0)), nil, api.ErrMany},
		{"scale", l(0, 0), 0, of(n(0)), nil, api.ErrMany},
		{"scale", l(0, 1), 0, of(n(0)), nil, api.OK},
		{"scale", l(1, 0), 0, of(n(0)), nil, api.OK},
		{"scale", l(), 0, of(n(0)), of(l()), api.OK},
		{"scale", l(), 0, of(n(5)), of(l()), api.OK},
		{"scale", value.OfInts(make([]int64, 16)), 0, of(n(0)), nil, api.ErrMany},
		{"scale", value.OfInts(append(make([]int64, 15), 1)), 0, of(n(0)), nil, api.OK},
		{"scale", value.OfInts(full), 0, of(n(-1)), of(value.OfInts(slices.Repeat([]int64{-2}, 16))), api.OK},
		{"scale", l(0, 6), 1, of(l(0, 2)), of(n(3)), api.OK},
		{"scale", l(6, 0), 1, of(l(2, 0)), of(n(3)), api.OK},
		{"scale", l(1, 6), 1, of(l(0, 2)), nil, api.OK},
		{"scale", l(6, 1), 1, of(l(2, 0)), nil, api.OK},
		{"scale", l(4, 6), 1, of(l(2, 2)), nil, api.OK},
		{"scale", l(3), 1, of(l(2)), nil, api.OK},
		{"scale", l(0, 0), 1, of(l(0, 0)), nil, api.ErrMany},
		{"scale", l(0), 1, of(l(0, 0)), nil, api.OK},
		{"scale", l(), 1, of(l()), nil, api.ErrMany},
		{"scale", l(), 1, of(l(0)), nil, api.OK},
		{"scale", l(0), 1, of(l(2)), of(n(0)), api.OK},
	})
}

// P10.3: the errors and their order.
func TestGivenErrors(t *testing.T) {
	bad := api.Value{Type: api.Bool, Num: 2}
	checkGivenCases(t, []givenCase{
		{"plus", bad, 9, nil, nil, api.ErrName},
		{"less", bad, 9, nil, nil, api.ErrNone},
		{"len", n(1), 0, nil, nil, api.ErrNone},
		{"zip", l(1), 0, of(l(1)), nil, api.ErrNone},
		{"add", bad, 2, nil, nil, api.ErrRange},
		{"add", bad, -1, of(bad), nil, api.ErrRange},
		{"neg", n(3), 1, nil, nil, api.ErrRange},
		{"add", n(3), math.MaxInt, of(n(1)), nil, api.ErrRange},
		{"add", n(3), math.MinInt, of(n(1)), nil, api.ErrRange},
		{"add", bad, 0, nil, nil, api.ErrSize},
		{"add", bad, 0, of(bad, bad), nil, api.ErrSize},
		{"neg", bad, 0, of(bad), nil, api.ErrSize},
		{"add", s("a"), 0, of(bad), nil, api.ErrRange},
		{"add", bad, 0, of(s("a")), nil, api.ErrType},
		{"add", bad, 0, of(n(1000001)), nil, api.ErrRange},
		{"add", s("a"), 0, of(n(1)), nil, api.ErrType},
		{"add", bad, 0, of(n(1)), nil, api.ErrRange},
		{"shift", l(1), 0, of(l(1)), nil, api.ErrType},
		{"shift", l(1), 1, of(n(1)), nil, api.ErrType},
		{"shift", n(1), 1, of(l(1)), nil, api.ErrType},
		{"concat", s(a64 + "a"), 1, of(s("")), nil, api.ErrSize},
		{"concat", s("a"), 1, of(api.Value{Type: api.Text, Num: 1}), nil, api.ErrForm},
		{"show", n(1), 0, nil, nil, api.ErrType},
		{"read", n(1), 0, nil, of(s("1")), api.OK},
	})
	for _, name := range strangers() {
		checkGivenCases(t, []givenCase{{name, n(1), 0, of(n(1)), nil, api.ErrName}})
	}
}

// P10.3: the solvable operators.
func TestSolvable(t *testing.T) {
	for _, name := range operator.Names() {
		isSolvable := inverse.Invertible(name) || slices.Contains(strings.Fields("add sub mul shift scale"), name)
		if _, e := inverse.Given(name, api.Value{}, -1, nil); (e == api.ErrRange) != isSolvable || (e == api.ErrNone) == isSolvable {
			t.Errorf("%s: %d", name, e)
		}
	}
}

// P10.3, P10.6: all arguments and results of pools that contain all values of the argument for them.
func TestGivenAgainstPools(t *testing.T) {
	bools, bits := of(no, yes), allBits()
	some := each(value.OfBits, 0, 1, 2, 3, 6, 16, 64, 85, 128, 130, 240, 255)
	short, lists := textsOf(3, "ab"), intsOf(3, -1, 0, 2)
	texts := each(value.OfTexts, listsOf(3, "", "a", "ab")...)
	for _, x := range []struct {
		name                 string
		outs, known, unknown []api.Value
	}{
		{"and", bools, bools, bools},
		{"or", bools, bools, bools},
		{"not", bools, nil, bools},
		{"neg", numbers(-9, 9), nil, numbers(-9, 9)},
		{"concat", short, short, short},
		{"upper", textsOf(2, visible()[:70]), nil, textsOf(2, visible())},
		{"lower", textsOf(2, visible()[30:]), nil, textsOf(2, visible())},
		{"show", textsOf(2, "-+ 0129"), nil, numbers(-100, 100)},
		{"read", numbers(-9, 99), nil, textsOf(2, "-0123456789")},
		{"revtexts", texts, nil, texts},
		{"reverse", lists, nil, lists},
		{"append", lists, lists, lists},
		{"running", intsOf(3, -1, 0, 1), nil, intsOf(3, -2, -1, 0, 1, 2)},
		{"band", bits, some, bits},
		{"bor", bits, some, bits},
		{"bxor", bits, some, bits},
		{"bnot", bits, nil, bits},
		{"badd", bits, some, bits},
		{"bsub", bits, some, bits},
		{"bmul", bits, some, bits},
		{"shift", intsOf(2, -1, 0, 1), numbers(-3, 3), intsOf(2, -4, -3, -2, -1, 0, 1, 2, 3, 4)},
	} {
		if x.known == nil {
			checkGivenOnPool(t, x.name, 0, nil, x.outs, x.unknown)
		}
		for _, known := range x.known {
			checkGivenOnPool(t, x.name, 0, of(known), x.outs, x.unknown)
			if known.Type == x.unknown[0].Type {
				checkGivenOnPool(t, x.name, 1, of(known), x.outs, x.unknown)
			}
		}
	}
}

// checkGivenOnPool checks Given for results out, for which the pool has all values of the argument at.
func checkGivenOnPool(t *testing.T, name string, at int, known, outs, pool []api.Value) {
	t.Helper()
	pools := all(pool)
	if len(known) > 0 {
		pools = slices.Insert(pools, 1-at, known)
	}
	found := preimages(t, name, pools...)
	for _, out := range outs {
		var want []api.Value
		for _, args := range found[key(out)] {
			want = append(want, args[at])
		}
		if got, e := inverse.Given(name, out, at, known); !same(got, want) || e != api.OK {
			t.Fatalf("%s: %v, argument %d, with %v: %v, %d, not %v", name, out, at, known, got, e, want)
		}
	}
}

// checkNumber checks Given for an unknown number against all valid numbers x for which gives is true.
func checkNumber(t *testing.T, x givenCase, gives func(x int64) bool) {
	t.Helper()
	for i := int64(-api.MaxInt); i <= api.MaxInt && len(x.want) <= api.MaxInverse; i++ {
		if gives(i) {
			x.want = append(x.want, n(i))
		}
	}
	if len(x.want) > api.MaxInverse {
		x.want, x.e = nil, api.ErrMany
	}
	checkGivenCases(t, []givenCase{x})
}

// P10.3, P10.6: numbers against all valid numbers.
func TestGivenAgainstAllNumbers(t *testing.T) {
	for _, known := range []int64{-1000000, -7, 0, 1, 600000} {
		for _, out := range []int64{-1000000, -14, 0, 1, 999999} {
			k, o := of(n(known)), n(out)
			checkNumber(t, givenCase{name: "add", out: o, at: 0, known: k}, func(x int64) bool { return x+known == out })
			checkNumber(t, givenCase{name: "add", out: o, at: 1, known: k}, func(x int64) bool { return known+x == out })
			checkNumber(t, givenCase{name: "sub", out: o, at: 0, known: k}, func(x int64) bool { return x-known == out })
			checkNumber(t, givenCase{name: "sub", out: o, at: 1, known: k}, func(x int64) bool { return known-x == out })
			checkNumber(t, givenCase{name: "mul", out: o, at: 0, known: k}, func(x int64) bool { return x*known == out })
			checkNumber(t, givenCase{name: "mul", out: o, at: 1, known: k}, func(x int64) bool { return known*x == out })
		}
	}
}

// P10.3, P10.6: the number of shift and scale against all valid numbers.
func TestGivenListsAgainstAllNumbers(t *testing.T) {
	all := [][]int64{{}, {0}, {3}, {0, 0}, {0, 2}, {6, -2}, {0, -1000000}}
	for _, known := range all {
		for _, out := range all {
			isResult := func(operation func(a int64) int64) bool {
				return slices.EqualFunc(known, out, func(a, b int64) bool { return operation(a) == b })
			}
			k, o := of(value.OfInts(known)), value.OfInts(out)
			checkNumber(t, givenCase{name: "shift", out: o, at: 1, known: k}, func(x int64) bool {
				return isResult(func(a int64) int64 { return a + x })
			})
			checkNumber(t, givenCase{name: "scale", out: o, at: 1, known: k}, func(x int64) bool {
				return isResult(func(a int64) int64 { return a * x })
			})
		}
	}
}

// P10.3, P10.6: the list of scale, element by element.
func TestGivenScaledLists(t *testing.T) {
	for _, out := range listsOf[int64](2, -6, -1, 0, 1, 4, 1000000) {
		for _, known := range []int64{-1000000, -2, -1, 1, 3, 500000} {
			list, isPossible := []int64{}, true
			for _, o := range out {
				list = append(list, o/known)
				isPossible = isPossible && o/known*known == o
			}
			var want []api.Value
			if isPossible {
				want = of(value.OfInts(list))
			}
			checkGivenCases(t, []givenCase{{"scale", value.OfInts(out), 0, of(n(known)), want, api.OK}})
		}
	}
}
