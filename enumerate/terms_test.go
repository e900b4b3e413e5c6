package enumerate_test

import (
	"math"
	"strconv"
	"strings"
	"testing"

	"synthesis/api"
	"synthesis/counting"
	"synthesis/enumerate"
	"synthesis/grammar"
	"synthesis/statetest"
	"synthesis/term"
)

// sizeUpTo returns the greatest size up to which a symbol has at most the given number of terms.
func sizeUpTo(l api.Language, symbol int, count int64) int {
	size := 0
	for size < api.MaxSize {
		n, e := counting.Total(l, symbol, size+1)
		if e != api.OK || n > count {
			break
		}
		size++
	}
	return size
}

// P21.1, P21.3, P21.5: all small terms of all symbols.
func TestAllTerms(t *testing.T) {
	for _, l := range tested() {
		o := statetest.OracleOf(l)
		for symbol := range l.Symbols {
			var upTo []api.Term
			for size := 1; size <= sizeUpTo(l, symbol, 3000); size++ {
				want := o.Terms(symbol, size)
				upTo = append(upTo, want...)
				if got, e := enumerate.Terms(l, symbol, size); e != api.OK || writeAll(got) != writeAll(want) {
					t.Fatalf("%s: Terms of %d, %d are %d, not %d: %d", l.Name, symbol, size, len(got), len(want), e)
				}
				if got, e := enumerate.UpTo(l, symbol, size); e != api.OK || writeAll(got) != writeAll(upTo) {
					t.Fatalf("%s: UpTo of %d, %d is %d, not %d: %d", l.Name, symbol, size, len(got), len(upTo), e)
				}
				checkFirst(t, l, symbol, size, want)
			}
		}
	}
}

// checkFirst checks that First returns the first one of all terms of the size.
func checkFirst(t *testing.T, l api.Language, symbol, size int, all []api.Term) {
	t.Helper()
	first, e := enumerate.First(l, symbol, size)
	if len(all) == 0 {
		if e != api.ErrNone || !isZero(first) {
			t.Fatalf("%s: First of %d, %d is %s, %d", l.Name, symbol, size, write(first), e)
		}
		return
	}
	if e != api.OK || write(first) != write(all[0]) {
		t.Fatalf("%s: First of %d, %d is %s, %d", l.Name, symbol, size, write(first), e)
	}
}

// P21.5: there are as many terms as counting.Count says, and they have the numbers of layer 12.
func TestNumbers(t *testing.T) {
	for _, l := range tested() {
		for symbol := range l.Symbols {
			for size := range api.MaxSize + 1 {
				count, e := counting.Count(l, symbol, size)
				if e != api.OK || count > api.MaxTerms {
					continue
				}
				got, e := enumerate.Terms(l, symbol, size)
				if e != api.OK || int64(len(got)) != count {
					t.Fatalf("%s: %d terms of %d, %d: %d, not %d", l.Name, len(got), symbol, size, e, count)
				}
				for n := int64(0); n < count; n += 1 + count/50 {
					if want, _ := counting.Term(l, symbol, size, n); write(got[n]) != write(want) {
						t.Fatalf("%s: %s is not number %d of %d, %d", l.Name, write(got[n]), n, symbol, size)
					}
				}
			}
		}
	}
}

// pairs returns a language with a symbol that has four terms of the size 3 for each pair of constants, and as many of the size 1 as wanted.
func pairs(leaves int) api.Language {
	var b strings.Builder
	b.WriteString("language pairs\ninputs\nsymbol S int\nsymbol A int\n")
	for n := range 32 {
		b.WriteString("rule A = " + strconv.Itoa(n) + "\n")
	}
	for n := range leaves {
		b.WriteString("rule S = " + strconv.Itoa(n) + "\n")
	}
	b.WriteString("rule S = add(A, A)\nrule S = sub(A, A)\nrule S = mul(A, A)\nrule S = max(A, A)\n")
	return statetest.Language(b.String())
}

// P21.1: exactly MaxTerms terms, and one more.
func TestMaxTerms(t *testing.T) {
	exact, more := pairs(0), pairs(1)
	for i, x := range []struct {
		call  func() ([]api.Term, api.Errno)
		count int
		want  api.Errno
	}{
		{func() ([]api.Term, api.Errno) { return enumerate.Terms(exact, 0, 3) }, api.MaxTerms, api.OK},
		{func() ([]api.Term, api.Errno) { return enumerate.UpTo(exact, 0, 3) }, api.MaxTerms, api.OK},
		{func() ([]api.Term, api.Errno) { return enumerate.UpTo(exact, 0, api.MaxSize) }, api.MaxTerms, api.OK},
		{func() ([]api.Term, api.Errno) { return enumerate.Satisfying(exact, nil, 3) }, api.MaxTerms, api.OK},
		{func() ([]api.Term, api.Errno) { return enumerate.Terms(more, 0, 3) }, api.MaxTerms, api.OK},
		{func() ([]api.Term, api.Errno) { return enumerate.UpTo(more, 0, 2) }, 1, api.OK},
		{func() ([]api.Term, api.Errno) { return enumerate.UpTo(more, 0, 3) }, 0, api.ErrMany},
		{func() ([]api.Term, api.Errno) { return enumerate.UpTo(more, 0, api.MaxSize) }, 0, api.ErrMany},
		{func() ([]api.Term, api.Errno) { return enumerate.Satisfying(more, nil, 3) }, 0, api.ErrMany},
		{func() ([]api.Term, api.Errno) { return enumerate.Satisfying(more, nil, 2) }, 1, api.OK},
		{func() ([]api.Term, api.Errno) { return enumerate.Terms(sums(), 0, 17) }, 1430, api.OK},
		{func() ([]api.Term, api.Errno) { return enumerate.UpTo(sums(), 0, 17) }, 2056, api.OK},
		{func() ([]api.Term, api.Errno) { return enumerate.Terms(sums(), 0, 18) }, 0, api.OK},
		{func() ([]api.Term, api.Errno) { return enumerate.Terms(sums(), 0, 19) }, 0, api.ErrMany},
		{func() ([]api.Term, api.Errno) { return enumerate.UpTo(sums(), 0, 18) }, 2056, api.OK},
		{func() ([]api.Term, api.Errno) { return enumerate.UpTo(sums(), 0, 19) }, 0, api.ErrMany},
	} {
		if got, e := x.call(); e != x.want || len(got) != x.count {
			t.Errorf("case %d: %d terms, %d, not %d, %d", i, len(got), e, x.count, x.want)
		}
	}
}

// plenty returns a language with more than MaxCount terms of most sizes. The first term of a size is known.
func plenty() api.Language {
	var b strings.Builder
	b.WriteString("language plenty\ninputs int\nsymbol S int\nrule S = add(S, S)\nrule S = mul(S, S)\nrule S = neg(S)\nrule S = in0\n")
	for n := range 64 {
		b.WriteString("rule S = " + strconv.Itoa(n) + "\n")
	}
	return statetest.Language(b.String())
}

// P21.1, P21.2, P21.3: more terms than can be counted.
func TestPlenty(t *testing.T) {
	l := plenty()
	if _, e := counting.Count(l, 0, api.MaxSize); e != api.ErrMany {
		t.Fatal(e)
	}
	if got, e := enumerate.Terms(l, 0, api.MaxSize); e != api.ErrMany || len(got) > 0 {
		t.Error(len(got), e)
	}
	if got, e := enumerate.UpTo(l, 0, api.MaxSize); e != api.ErrMany || len(got) > 0 {
		t.Error(len(got), e)
	}
	// The sums come first: the first one of odd size is a sum on the left of sums of in0, and so on.
	even, e := enumerate.First(l, 0, api.MaxSize)
	if text := notationOf(l, even); e != api.OK || text != strings.Repeat("add(", 11)+"neg(in0)"+strings.Repeat(", in0)", 11) {
		t.Error(text, e)
	}
	odd, e := enumerate.First(l, 0, api.MaxSize-1)
	if text := notationOf(l, odd); e != api.OK || text != strings.Repeat("add(", 11)+"in0"+strings.Repeat(", in0)", 11) {
		t.Error(text, e)
	}
	next, ok, e := enumerate.Next(l, 0, odd)
	if text := notationOf(l, next); e != api.OK || !ok || text != strings.Repeat("add(", 11)+"in0"+strings.Repeat(", in0)", 10)+", 0)" {
		t.Error(text, ok, e)
	}
	// The last term of a size is followed by the first one of the next size.
	last := program(l, 0, strings.Repeat("neg(", 22)+"63"+strings.Repeat(")", 22))
	if next, ok, e := enumerate.Next(l, 0, last); e != api.OK || !ok || write(next) != write(even) {
		t.Error(notationOf(l, next), ok, e)
	}
	last = nested(2, 1, last)
	if next, ok, e := enumerate.Next(l, 0, last); e != api.OK || ok || !isZero(next) {
		t.Error(write(next), ok, e)
	}
}

// P21.1, P21.3: errors in their order.
func TestTermsErrors(t *testing.T) {
	valid := choices()
	calls := []func(l api.Language, symbol, size int) api.Errno{
		func(l api.Language, symbol, size int) api.Errno {
			got, e := enumerate.Terms(l, symbol, size)
			if e != api.OK && len(got) > 0 {
				t.Error(len(got), e)
			}
			return e
		},
		func(l api.Language, symbol, size int) api.Errno {
			got, e := enumerate.UpTo(l, symbol, size)
			if e != api.OK && len(got) > 0 {
				t.Error(len(got), e)
			}
			return e
		},
		func(l api.Language, symbol, size int) api.Errno {
			got, e := enumerate.First(l, symbol, size)
			if e != api.OK && !isZero(got) {
				t.Error(write(got), e)
			}
			return e
		},
	}
	for i, call := range calls {
		for _, l := range statetest.Invalid() {
			for _, n := range []int{0, -1, 99, 1} {
				if e := call(l, n, n); e == api.OK || e != grammar.Check(l) {
					t.Errorf("call %d: %d", i, e)
				}
			}
		}
		for _, symbol := range []int{-1, 3, math.MinInt, math.MaxInt} {
			for _, size := range []int{1, 0, api.MaxSize} {
				if e := call(valid, symbol, size); e != api.ErrRange {
					t.Errorf("call %d: symbol %d: %d", i, symbol, e)
				}
			}
		}
		for _, size := range []int{0, -1, api.MaxSize + 1, math.MinInt, math.MaxInt} {
			if e := call(valid, 1, size); e != api.ErrRange {
				t.Errorf("call %d: size %d: %d", i, size, e)
			}
		}
		for symbol := range valid.Symbols {
			if e := call(valid, symbol, 2); e != api.OK && (i != 2 || e != api.ErrNone) {
				t.Errorf("call %d: symbol %d: %d", i, symbol, e)
			}
		}
	}
}

// P21.1, P21.3: the least and the greatest size, and sizes without terms.
func TestSizes(t *testing.T) {
	l := unary()
	for size := 1; size <= api.MaxSize; size++ {
		want := nested(0, size-1, api.Term{Rule: 1})
		if got, e := enumerate.Terms(l, 0, size); e != api.OK || writeAll(got) != writeAll([]api.Term{want}) {
			t.Error(size, writeAll(got), e)
		}
		if got, e := enumerate.UpTo(l, 0, size); e != api.OK || len(got) != size || term.Size(got[size-1]) != size {
			t.Error(size, len(got), e)
		}
		if got, e := enumerate.First(l, 0, size); e != api.OK || write(got) != write(want) {
			t.Error(size, write(got), e)
		}
	}
	f := finite()
	for symbol, sizes := range [][]int{{1, 2, 4}, {24}} {
		for size := 1; size <= api.MaxSize; size++ {
			isThere := false
			for _, s := range sizes {
				isThere = isThere || s == size
			}
			want := map[bool]api.Errno{true: api.OK, false: api.ErrNone}[isThere]
			if got, e := enumerate.First(f, symbol, size); e != want || e == api.OK && term.Size(got) != size {
				t.Error(symbol, size, write(got), e)
			}
			if got, e := enumerate.Terms(f, symbol, size); e != api.OK || len(got) > 0 != isThere {
				t.Error(symbol, size, len(got), e)
			}
		}
	}
}
