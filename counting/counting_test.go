package counting_test

import (
	"math"
	"slices"
	"testing"

	"synthesis/api"
	"synthesis/counting"
	"synthesis/grammar"
)

// checkAll compares the functions with all terms up to a size.
func checkAll(t *testing.T, l api.Language, most int) {
	t.Helper()
	found := all(l, most)
	for symbol := range l.Symbols {
		total := int64(0)
		for size := 1; size <= most; size++ {
			want := found[symbol][size]
			total += int64(len(want))
			if n, e := counting.Count(l, symbol, size); n != int64(len(want)) || e != api.OK {
				t.Fatalf("%v: Count of symbol %d and size %d is %d, %d, not %d", l, symbol, size, n, e, len(want))
			}
			if n, e := counting.Total(l, symbol, size); n != total || e != api.OK {
				t.Fatalf("%v: Total of symbol %d up to size %d is %d, %d, not %d", l, symbol, size, n, e, total)
			}
			for n, x := range want {
				if got, e := counting.Term(l, symbol, size, int64(n)); !sameTerm(got, x) || e != api.OK {
					t.Fatalf("%v: term %d of symbol %d and size %d is %v, %d, not %v", l, n, symbol, size, got, e, x)
				}
				if got, e := counting.Index(l, symbol, x); got != int64(n) || e != api.OK {
					t.Fatalf("%v: the number of %v is %d, %d, not %d", l, x, got, e, n)
				}
			}
			if got, e := counting.Term(l, symbol, size, int64(len(want))); e != api.ErrRange || !sameTerm(got, api.Term{}) {
				t.Fatalf("%v: term %d of symbol %d and size %d is %v, %d", l, len(want), symbol, size, got, e)
			}
		}
	}
}

// P12.1, P12.3, P12.4, P12.5: all terms of many languages.
func TestAllTerms(t *testing.T) {
	for i, l := range family() {
		// The last languages have the most terms.
		most := 7
		if i%8 > 0 {
			most = 5
		}
		checkAll(t, l, most)
	}
	checkAll(t, choices(), 7)
	checkAll(t, numbers("S"), api.MaxSize)
	checkAll(t, numbers("S", input(0)), api.MaxSize)
	checkAll(t, numbers("S", apply(0, "neg", 0), input(0)), api.MaxSize)
	checkAll(t, numbers("S", apply(0, "neg", 0)), api.MaxSize)
	checkAll(t, numbers("S", input(0), apply(0, "add", 0, 0)), 13)
	checkAll(t, numbers("S", apply(0, "add", 0, 0), input(0)), 13)
}

// P12.5: Total is the sum of Count for all sizes.
func TestTotalIsSum(t *testing.T) {
	for _, l := range append(family(), choices()) {
		for symbol := range l.Symbols {
			sum := int64(0)
			for size := 1; size <= api.MaxSize; size++ {
				n, e := counting.Count(l, symbol, size)
				sum += n
				if total, f := counting.Total(l, symbol, size); total != sum || e != api.OK || f != api.OK {
					t.Fatalf("%v: symbol %d, size %d: %d, %d, %d, %d, not %d", l, symbol, size, n, e, total, f, sum)
				}
			}
		}
	}
}

// P11.7: a language without recursive symbols that are reachable and productive has finitely many programs.
func TestFinite(t *testing.T) {
	for _, l := range family() {
		isFinite := true
		p, q, r := grammar.Productive(l), grammar.Reachable(l), grammar.Recursive(l)
		for symbol := range l.Symbols {
			isFinite = isFinite && !(p[symbol] && q[symbol] && r[symbol])
		}
		// The programs of a finite language have at most one level for each of the 3 symbols, and so at most 7 rules.
		some, e := counting.Total(l, 0, 7)
		more, f := counting.Total(l, 0, api.MaxSize)
		if isFinite && more > some || e != api.OK || f != api.OK {
			t.Errorf("%v: %d, %d, %d, %d", l, some, e, more, f)
		}
	}
}

// invalid are languages that are not valid.
func invalid() []api.Language {
	return []api.Language{{}, numbers(""), numbers("SS"), numbers("S", input(1)), numbers("S", apply(0, "neg", 1)), numbers("S", input(0), input(0))}
}

// P12.1, P12.3, P12.4: the errors of the language, the symbol and the size, in this order.
func TestErrors(t *testing.T) {
	for _, l := range invalid() {
		check(t, l, -1, 0, grammar.Check(l))
		if got, e := counting.Index(l, -1, leaf(-1)); got != 0 || e != grammar.Check(l) {
			t.Errorf("%v: %d, %d", l, got, e)
		}
	}
	l := numbers("SA", input(0), input(1), apply(0, "add", 0, 0))
	for _, symbol := range []int{math.MinInt, -1, 2, 3, math.MaxInt} {
		check(t, l, symbol, 1, api.ErrRange)
		if got, e := counting.Index(l, symbol, leaf(-1)); got != 0 || e != api.ErrRange {
			t.Errorf("symbol %d: %d, %d", symbol, got, e)
		}
	}
	for _, size := range []int{math.MinInt, -1, 0, 25, 32, 64, 1 << 32, math.MaxInt} {
		check(t, l, 0, size, api.ErrRange)
	}
}

// check checks that Count, Total and Term return the error, and nothing else.
func check(t *testing.T, l api.Language, symbol, size int, want api.Errno) {
	t.Helper()
	if n, e := counting.Count(l, symbol, size); n != 0 || e != want {
		t.Errorf("%v: Count of symbol %d and size %d is %d, %d, not %d", l, symbol, size, n, e, want)
	}
	if n, e := counting.Total(l, symbol, size); n != 0 || e != want {
		t.Errorf("%v: Total of symbol %d up to size %d is %d, %d, not %d", l, symbol, size, n, e, want)
	}
	for _, n := range []int64{-1, 0, math.MaxInt64} {
		if got, e := counting.Term(l, symbol, size, n); !sameTerm(got, api.Term{}) || e != want {
			t.Errorf("%v: Term of symbol %d, size %d and number %d is %v, %d, not %d", l, symbol, size, n, got, e, want)
		}
	}
}

// P12.3: the numbers of terms.
func TestTermErrors(t *testing.T) {
	l := numbers("SA", input(0), apply(0, "add", 0, 0), apply(1, "neg", 1))
	for _, x := range []struct {
		symbol, size int
		n            int64
	}{{0, 1, -1}, {0, 1, 1}, {0, 2, 0}, {0, 5, 2}, {0, 5, math.MaxInt64}, {0, 5, math.MinInt64}, {0, 5, 1 << 32}, {1, 1, 0}, {1, 24, 0}} {
		if got, e := counting.Term(l, x.symbol, x.size, x.n); e != api.ErrRange || !sameTerm(got, api.Term{}) {
			t.Errorf("%v: %v, %d", x, got, e)
		}
	}
}

// P12.4: terms that are none of the symbol, and large ones.
func TestIndexErrors(t *testing.T) {
	l := numbers("SA", input(0), apply(0, "add", 0, 1), input(1), apply(1, "neg", 1))
	deep := func(levels int, top api.Term) api.Term {
		for range levels {
			top = node(3, top)
		}
		return top
	}
	for i, x := range []struct {
		symbol int
		t      api.Term
		e      api.Errno
	}{
		{0, leaf(-1), api.ErrForm},
		{0, leaf(4), api.ErrForm},
		{0, leaf(math.MaxInt), api.ErrForm},
		{0, leaf(math.MinInt), api.ErrForm},
		{0, leaf(1), api.ErrForm},
		{0, leaf(2), api.ErrForm},
		{1, leaf(0), api.ErrForm},
		{0, node(0, leaf(0)), api.ErrForm},
		{0, node(1, leaf(0)), api.ErrForm},
		{0, node(1, leaf(0), leaf(2), leaf(2)), api.ErrForm},
		{0, node(1, leaf(0), leaf(0)), api.ErrForm},
		{0, node(1, leaf(2), leaf(2)), api.ErrForm},
		{0, node(1, leaf(2), leaf(0)), api.ErrForm},
		{0, node(1, leaf(0), node(3, leaf(0))), api.ErrForm},
		{0, node(1, leaf(0), node(3)), api.ErrForm},
		{1, deep(23, leaf(2)), api.OK},
		{1, deep(24, leaf(2)), api.ErrRange},
		{1, deep(1000, leaf(2)), api.ErrRange},
		{1, deep(1<<16-1, leaf(2)), api.ErrRange},
		{1, deep(24, leaf(0)), api.ErrForm},
		{1, deep(1000, leaf(0)), api.ErrForm},
		{0, deep(1000, leaf(2)), api.ErrForm},
		{0, node(1, node(1, leaf(0), deep(40, leaf(2))), leaf(4)), api.ErrForm},
		{0, node(1, leaf(0), deep(21, leaf(2))), api.OK},
		{0, node(1, leaf(0), deep(22, leaf(2))), api.ErrRange},
	} {
		got, e := counting.Index(l, x.symbol, x.t)
		if e != x.e || got != 0 {
			t.Errorf("term %d: %d, %d, not %d", i, got, e, x.e)
		}
	}
	// A list of arguments may be empty or nil.
	if got, e := counting.Index(l, 0, api.Term{Args: []api.Term{}}); got != 0 || e != api.OK {
		t.Error(got, e)
	}
}

// DOC.md, rule 1: a term that contains itself is no term of a symbol.
func TestIndexOfCycle(t *testing.T) {
	l := numbers("S", input(0), apply(0, "neg", 0), apply(0, "add", 0, 0))
	one, two := make([]api.Term, 1), make([]api.Term, 2)
	one[0] = node(1, one...)
	two[0], two[1] = node(2, two...), node(2, two...)
	for _, x := range []api.Term{one[0], two[0], node(2, leaf(0), one[0])} {
		if got, e := counting.Index(l, 0, x); got != 0 || e != api.ErrForm {
			t.Error(got, e)
		}
	}
}

// P12.2: all symbols of all languages that are compared with all their terms.
func TestLeast(t *testing.T) {
	for _, l := range append(family(), choices()) {
		const most = 7
		found := all(l, most)
		got, e := counting.Least(l)
		if len(got) != len(l.Symbols) || e != api.OK {
			t.Fatalf("%v: %v, %d", l, got, e)
		}
		for symbol := range l.Symbols {
			isNotEmpty := func(terms []api.Term) bool { return len(terms) > 0 }
			// A least term has at most one level for each symbol, and so at most 7 rules; there is none of the size 0.
			want := max(slices.IndexFunc(found[symbol], isNotEmpty), 0)
			if got[symbol] != want {
				t.Errorf("%v: the least size of symbol %d is %d, not %d", l, symbol, got[symbol], want)
			}
			if grammar.Productive(l)[symbol] != (got[symbol] > 0) {
				t.Errorf("%v: symbol %d: %d", l, symbol, got[symbol])
			}
		}
	}
}

// P12.2: the examples, and sizes that are greater than MaxSize.
func TestLeastOfLarge(t *testing.T) {
	const names = "ABCDEFGHIJKLMNOP"
	chain, triple := numbers(names), numbers(names)
	triple.Inputs[0] = api.Text
	var chainSizes, tripleSizes []int
	size := 1
	for i := range api.MaxSymbols {
		triple.Symbols[i].Type = api.Text
		chainSizes = append(chainSizes, api.MaxSymbols-i)
		tripleSizes = append([]int{size}, tripleSizes...)
		size = 3*size + 1
		if i > 0 {
			chain.Rules = append(chain.Rules, apply(i-1, "neg", i))
			triple.Rules = append(triple.Rules, apply(i-1, "replace", i, i, i))
		}
	}
	chain.Rules = append(chain.Rules, input(15))
	triple.Rules = append(triple.Rules, input(15))
	for _, x := range []struct {
		l    api.Language
		want []int
	}{
		{numbers("SA", apply(0, "neg", 1), apply(1, "neg", 0)), []int{0, 0}},
		{numbers("SA", input(0), apply(0, "add", 0, 0), apply(1, "mul", 0, 0)), []int{1, 3}},
		{numbers("S", apply(0, "add", 0, 0), input(0)), []int{1}},
		{numbers("SAB", apply(0, "neg", 1), apply(0, "add", 2, 2), apply(1, "add", 2, 2), input(2)), []int{3, 3, 1}},
		{numbers("SAB", apply(0, "add", 2, 2), apply(0, "neg", 2), input(2)), []int{2, 0, 1}},
		{numbers("S"), []int{0}},
		{chain, chainSizes},
		{triple, tripleSizes},
	} {
		if got, e := counting.Least(x.l); !slices.Equal(got, x.want) || e != api.OK {
			t.Errorf("%v: %v, %d, not %v", x.l, got, e, x.want)
		}
	}
	if n, e := counting.Total(triple, 0, api.MaxSize); n != 0 || e != api.OK {
		t.Error(n, e)
	}
	for _, l := range invalid() {
		if got, e := counting.Least(l); len(got) != 0 || e != grammar.Check(l) {
			t.Errorf("%v: %v, %d", l, got, e)
		}
	}
}

// P12.5: a symbol has a term of its least size, and none that is smaller.
func TestLeastIsCounted(t *testing.T) {
	for _, l := range append(family(), choices(), powers()) {
		least, _ := counting.Least(l)
		for symbol, size := range least {
			if size > 1 {
				if n, e := counting.Total(l, symbol, size-1); n != 0 || e != api.OK {
					t.Errorf("%v: symbol %d has %d, %d terms that are smaller than %d", l, symbol, n, e, size)
				}
			}
			if size > 0 {
				if n, e := counting.Count(l, symbol, size); n < 1 || e != api.OK {
					t.Errorf("%v: symbol %d has %d, %d terms of the size %d", l, symbol, n, e, size)
				}
			} else if n, e := counting.Total(l, symbol, api.MaxSize); n != 0 || e != api.OK {
				t.Errorf("%v: symbol %d has %d, %d terms", l, symbol, n, e)
			}
		}
	}
}

// DOC.md, rule 5: results share no memory with each other, and the arguments stay as they are.
func TestMemory(t *testing.T) {
	l := choices()
	for n := range int64(20) {
		first, _ := counting.Term(l, 0, 9, n)
		second, _ := counting.Term(l, 0, 9, n)
		want := preorder(first)
		if k, e := counting.Index(l, 0, first); k != n || e != api.OK || !slices.Equal(preorder(first), want) {
			t.Fatal(n, k, e, first)
		}
		spoil(second)
		if !slices.Equal(preorder(first), want) {
			t.Fatalf("term %d shares memory", n)
		}
		for i := range first.Args {
			spoil(first.Args[i])
			again, _ := counting.Term(l, 0, 9, n)
			for _, arg := range slices.Concat(first.Args[i+1:], again.Args[i+1:]) {
				if slices.Contains(preorder(arg), -1) {
					t.Fatalf("arguments of term %d share memory", n)
				}
			}
		}
	}
	if !grammar.Same(l, choices()) {
		t.Error("the language is changed")
	}
	if least, _ := counting.Least(l); len(least) > 0 {
		clear(least)
	}
	if least, e := counting.Least(l); !slices.Equal(least, []int{1, 1, 1}) || e != api.OK {
		t.Error(least, e)
	}
}

// spoil overwrites the memory behind the arguments of a term.
func spoil(x api.Term) {
	for _, arg := range x.Args[:cap(x.Args)] {
		spoil(arg)
	}
	for i := range x.Args[:cap(x.Args)] {
		x.Args[:cap(x.Args)][i] = leaf(-1)
	}
}
