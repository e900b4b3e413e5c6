package enumerate_test

import (
	"math"
	"testing"

	"synthesis/api"
	"synthesis/counting"
	"synthesis/enumerate"
	"synthesis/grammar"
	"synthesis/notation"
	"synthesis/statetest"
	"synthesis/term"
)

func notationOf(l api.Language, t api.Term) string {
	text, _ := notation.Print(l, t)
	return text
}

// P21.2, P21.5: beginning with the first term of the least size, Next visits the elements of UpTo.
func TestNextVisitsUpTo(t *testing.T) {
	for _, l := range tested() {
		least, _ := counting.Least(l)
		for symbol := range l.Symbols {
			most := sizeUpTo(l, symbol, 1500)
			all, e := enumerate.UpTo(l, symbol, max(most, 1))
			if e != api.OK {
				t.Fatal(e)
			}
			if len(all) == 0 {
				continue
			}
			x, e := enumerate.First(l, symbol, least[symbol])
			for i, want := range all {
				if e != api.OK || write(x) != write(want) {
					t.Fatalf("%s: the term %d of %d is %s, not %s: %d", l.Name, i, symbol, write(x), write(want), e)
				}
				var ok bool
				x, ok, e = enumerate.Next(l, symbol, x)
				if e != api.OK || !ok && (i < len(all)-1 || !isZero(x)) {
					t.Fatalf("%s: Next of %s is %s, %t, %d", l.Name, write(want), write(x), ok, e)
				}
				// If there is one more, it is too great for the list.
				if i == len(all)-1 && ok && term.Size(x) <= most {
					t.Fatalf("%s: %s comes after the last one", l.Name, write(x))
				}
			}
		}
	}
}

// P21.2: terms of all sizes, by their numbers in layer 12.
func TestNextNumbers(t *testing.T) {
	for _, l := range tested() {
		for symbol := range l.Symbols {
			for size := 1; size <= api.MaxSize; size++ {
				count, e := counting.Count(l, symbol, size)
				if e != api.OK {
					continue
				}
				step := max(1, count/5)
				for n := int64(0); n < count; n += step {
					checkNext(t, l, symbol, size, n, count)
				}
				if count > 0 {
					checkNext(t, l, symbol, size, count-1, count)
				}
			}
		}
	}
}

// checkNext checks Next of the term number n of the count terms of a size.
func checkNext(t *testing.T, l api.Language, symbol, size int, n, count int64) {
	t.Helper()
	x, _ := counting.Term(l, symbol, size, n)
	got, ok, e := enumerate.Next(l, symbol, x)
	var want api.Term
	isThere := n+1 < count
	if isThere {
		want, _ = counting.Term(l, symbol, size, n+1)
	}
	for larger := size + 1; larger <= api.MaxSize && !isThere; larger++ {
		var e api.Errno
		want, e = enumerate.First(l, symbol, larger)
		isThere = e == api.OK
	}
	if e != api.OK || ok != isThere || write(got) != write(want) {
		t.Fatalf("%s: Next of number %d of %d, %d is %s, %t, %d, not %s", l.Name, n, symbol, size, write(got), ok, e, write(want))
	}
}

// P21.2: the example, and terms after which there is none.
func TestNextExamples(t *testing.T) {
	l := sums()
	for i, x := range []struct {
		l      api.Language
		symbol int
		t      api.Term
		want   string
	}{
		{l, 0, program(l, 0, "add(in0, in0)"), "add(in0, add(in0, in0))"},
		{l, 0, program(l, 0, "in0"), "add(in0, in0)"},
		{l, 0, program(l, 0, "add(in0, add(in0, in0))"), "add(add(in0, in0), in0)"},
		{finite(), 0, program(finite(), 0, "in0"), "neg(1)"},
		{finite(), 0, program(finite(), 0, "neg(1)"), "min(1, neg(1))"},
		{finite(), 0, program(finite(), 0, "min(1, neg(1))"), ""},
		{unary(), 0, nested(0, api.MaxSize-2, api.Term{Rule: 1}), notationOf(unary(), nested(0, api.MaxSize-1, api.Term{Rule: 1}))},
		{unary(), 0, nested(0, api.MaxSize-1, api.Term{Rule: 1}), ""},
	} {
		got, ok, e := enumerate.Next(x.l, x.symbol, x.t)
		if e != api.OK || ok != (x.want != "") || ok && notationOf(x.l, got) != x.want || !ok && !isZero(got) {
			t.Errorf("case %d: %s, %t, %d", i, write(got), ok, e)
		}
	}
	// The last term of the greatest size of which there are terms. There are no terms of the size 24.
	x, e := counting.Term(l, 0, 23, 58785)
	if _, isMore := counting.Term(l, 0, 23, 58786); e != api.OK || isMore != api.ErrRange {
		t.Fatal(e, isMore)
	}
	if got, ok, e := enumerate.Next(l, 0, x); e != api.OK || ok || !isZero(got) {
		t.Error(write(got), ok, e)
	}
}

// P21.2: errors in their order.
func TestNextErrors(t *testing.T) {
	l, u := choices(), unary()
	leaf := func(rule int) api.Term { return api.Term{Rule: rule} }
	endless := api.Term{Args: make([]api.Term, 1)}
	endless.Args[0] = endless
	for i, x := range []struct {
		l      api.Language
		symbol int
		t      api.Term
		want   api.Errno
	}{
		{u, 1, leaf(1), api.ErrRange},
		{u, -1, leaf(9), api.ErrRange},
		{u, math.MaxInt, endless, api.ErrRange},
		{u, 0, endless, api.ErrSize},
		{u, 0, nested(0, api.MaxDepth, leaf(1)), api.ErrSize},
		{u, 0, nested(0, api.MaxDepth, leaf(9)), api.ErrSize},
		{u, 0, nested(0, api.MaxDepth-1, leaf(1)), api.ErrRange},
		{u, 0, nested(0, api.MaxSize, leaf(1)), api.ErrRange},
		{u, 0, nested(0, api.MaxSize-1, leaf(1)), api.OK},
		{u, 0, nested(0, api.MaxSize, leaf(0)), api.ErrForm},
		{l, 0, nested(8, api.MaxSize, leaf(4)), api.ErrType},
		{u, 0, leaf(2), api.ErrRange},
		{u, 0, leaf(-1), api.ErrRange},
		{u, 0, leaf(0), api.ErrForm},
		{u, 0, api.Term{Rule: 1, Args: []api.Term{leaf(1)}}, api.ErrForm},
		{l, 0, leaf(4), api.ErrType},
		{l, 1, leaf(4), api.OK},
		{l, 2, leaf(7), api.OK},
		{l, 2, leaf(2), api.ErrType},
		{l, 0, api.Term{Rule: 6, Args: []api.Term{leaf(2), leaf(2)}}, api.ErrType},
	} {
		got, ok, e := enumerate.Next(x.l, x.symbol, x.t)
		if e != x.want || e != api.OK && (ok || !isZero(got)) {
			t.Errorf("case %d: %s, %t, %d, not %d", i, write(got), ok, e, x.want)
		}
	}
	for _, l := range statetest.Invalid() {
		for _, symbol := range []int{0, -1, 5} {
			for _, x := range []api.Term{leaf(0), leaf(-7), endless} {
				if got, ok, e := enumerate.Next(l, symbol, x); e == api.OK || e != grammar.Check(l) || ok || !isZero(got) {
					t.Errorf("%s: %s, %t, %d", l.Name, write(got), ok, e)
				}
			}
		}
	}
}
