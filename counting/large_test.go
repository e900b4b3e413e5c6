package counting_test

import (
	"math"
	"slices"
	"strconv"
	"testing"

	"synthesis/api"
	"synthesis/counting"
	"synthesis/value"
)

// The symbols of powers and huge.
const (
	symbolS = iota
	symbolA
	symbolB
	symbolC
	symbolD
	symbolH
	symbolG
	symbolN
	symbolX
)

// powersSize is the size of the terms of the start symbol of powers.
const powersSize = 19

// powers returns a language whose symbols A, B, C, D and S have 2^6, 2^12, 2^24, 2^48 and 2^60 terms, of the sizes 1, 3, 7, 15 and 19.
// It has further symbols without terms, unless the further rules give them some.
func powers(rules ...api.Rule) api.Language {
	l := numbers("SABCDHGNX",
		apply(symbolS, "concat", symbolD, symbolB),
		apply(symbolB, "concat", symbolA, symbolA),
		apply(symbolC, "concat", symbolB, symbolB),
		apply(symbolD, "concat", symbolC, symbolC))
	l.Inputs[0] = api.Text
	for i := range l.Symbols {
		l.Symbols[i].Type = api.Text
	}
	for i := range 64 {
		l.Rules = append(l.Rules, text(symbolA, i))
	}
	l.Rules = append(l.Rules, rules...)
	return l
}

// text returns a rule with a number as its text.
func text(symbol, i int) api.Rule {
	return api.Rule{Symbol: symbol, Kind: api.RuleConst, Const: value.OfText(strconv.Itoa(i))}
}

// huge returns a language in which H has one term of the size 1, 2^61 of the size 20, and no others,
// G has terms of all odd sizes, N has none, and X those of the rules.
func huge(rules ...api.Rule) api.Language {
	return powers(append(rules,
		apply(symbolS, "concat", symbolB, symbolD),
		input(symbolH),
		apply(symbolH, "upper", symbolS),
		input(symbolG),
		apply(symbolG, "concat", symbolG, symbolG),
		apply(symbolN, "lower", symbolN))...)
}

// result is what a function that counts returns.
type result struct {
	n int64
	e api.Errno
}

func exactly(n int64) result { return result{n: n} }

func tooMany() result { return result{e: api.ErrMany} }

// expect checks Count and Total for the size.
func expect(t *testing.T, l api.Language, symbol, size int, count, total result) {
	t.Helper()
	if n, e := counting.Count(l, symbol, size); (result{n, e}) != count {
		t.Errorf("Count of symbol %d and size %d is %d, %d, not %v", symbol, size, n, e, count)
	}
	if n, e := counting.Total(l, symbol, size); (result{n, e}) != total {
		t.Errorf("Total of symbol %d up to size %d is %d, %d, not %v", symbol, size, n, e, total)
	}
}

// P12.1: MaxCount is permitted, and one more is not.
func TestMaxCount(t *testing.T) {
	l := powers()
	expect(t, l, symbolD, 15, exactly(1<<48), exactly(1<<48))
	expect(t, l, symbolS, 18, exactly(0), exactly(0))
	expect(t, l, symbolS, 19, exactly(api.MaxCount), exactly(api.MaxCount))
	expect(t, l, symbolS, 20, exactly(0), exactly(api.MaxCount))
	expect(t, l, symbolS, 24, exactly(0), exactly(api.MaxCount))

	// One program more, of the size 1.
	l = powers(input(symbolS))
	expect(t, l, symbolS, 18, exactly(0), exactly(1))
	expect(t, l, symbolS, 19, exactly(api.MaxCount), tooMany())
	expect(t, l, symbolS, 24, exactly(0), tooMany())

	// One program more of each size.
	l = powers(input(symbolS), apply(symbolS, "upper", symbolS))
	expect(t, l, symbolS, 18, exactly(1), exactly(18))
	expect(t, l, symbolS, 19, tooMany(), tooMany())

	// One constant more.
	l = powers(text(symbolA, 64))
	expect(t, l, symbolD, 15, exactly(65*65*65*65*65*65*65*65), exactly(65*65*65*65*65*65*65*65))
	expect(t, l, symbolS, 19, tooMany(), tooMany())
	expect(t, l, symbolS, 20, exactly(0), tooMany())
}

// P12.1: numbers that are too great do not matter where they are multiplied by 0, or belong to other sizes.
func TestCountBesideHuge(t *testing.T) {
	for size := 1; size <= 19; size++ {
		n := int64(0)
		if size == 1 {
			n = 1
		}
		expect(t, huge(), symbolH, size, exactly(n), exactly(1))
	}
	expect(t, huge(), symbolH, 20, tooMany(), tooMany())
	expect(t, huge(), symbolH, 21, exactly(0), tooMany())
	for _, rule := range []api.Rule{
		apply(symbolX, "concat", symbolH, symbolN),
		apply(symbolX, "concat", symbolN, symbolH),
		apply(symbolX, "replace", symbolN, symbolH, symbolH),
		apply(symbolX, "replace", symbolH, symbolN, symbolH),
		apply(symbolX, "replace", symbolH, symbolH, symbolN),
	} {
		for size := 1; size <= api.MaxSize; size++ {
			expect(t, huge(rule), symbolX, size, exactly(0), exactly(0))
		}
	}
}

// besideHuge is a rule for X whose terms have arguments of H, and the sizes up to MaxSize of which there are too many terms.
type besideHuge struct {
	rule    api.Rule
	tooMany []int
}

func rulesBesideHuge() []besideHuge {
	return []besideHuge{
		{apply(symbolX, "concat", symbolH, symbolH), []int{22}},
		{apply(symbolX, "concat", symbolG, symbolH), []int{22, 24}},
		{apply(symbolX, "concat", symbolH, symbolG), []int{22, 24}},
		{apply(symbolX, "replace", symbolG, symbolG, symbolH), []int{23}},
		{apply(symbolX, "replace", symbolG, symbolH, symbolG), []int{23}},
		{apply(symbolX, "replace", symbolH, symbolG, symbolG), []int{23}},
		{apply(symbolX, "replace", symbolG, symbolH, symbolH), []int{23}},
		{apply(symbolX, "replace", symbolH, symbolG, symbolH), []int{23}},
		{apply(symbolX, "replace", symbolH, symbolH, symbolG), []int{23}},
	}
}

// P12.1, P12.3, P12.4: terms beside which there would be too many others if their size permitted them.
func TestOrderBesideHuge(t *testing.T) {
	// Here H has its term of the size 1 alone.
	small := func(rule api.Rule) api.Language {
		return powers(rule, input(symbolH), input(symbolG), apply(symbolG, "concat", symbolG, symbolG))
	}
	for _, x := range rulesBesideHuge() {
		l := huge(x.rule)
		for size := 1; size <= api.MaxSize; size++ {
			count, e := counting.Count(l, symbolX, size)
			if slices.Contains(x.tooMany, size) {
				if count != 0 || e != api.ErrMany {
					t.Errorf("%v, size %d: %d, %d", x.rule, size, count, e)
				}
				continue
			}
			if want, _ := counting.Count(small(x.rule), symbolX, size); count != want || e != api.OK {
				t.Errorf("%v, size %d: %d, %d, not %d", x.rule, size, count, e, want)
			}
			checkNumbers(t, l, symbolX, size, count)
		}
	}
}

// checkNumbers checks that Index is the inverse of Term, and that the terms ascend with their numbers, for some numbers below the count.
func checkNumbers(t *testing.T, l api.Language, symbol, size int, count int64) {
	t.Helper()
	var before api.Term
	for i, n := range someNumbers(count) {
		x, e := counting.Term(l, symbol, size, n)
		if e != api.OK || len(preorder(x)) != size {
			t.Fatalf("term %d is %v, %d", n, x, e)
		}
		if got, e := counting.Index(l, symbol, x); got != n || e != api.OK {
			t.Fatalf("the number of %v is %d, %d, not %d", x, got, e, n)
		}
		if i > 0 && slices.Compare(preorder(before), preorder(x)) >= 0 {
			t.Fatalf("term %d is %v, and comes after %v", n, x, before)
		}
		before = x
	}
}

// someNumbers returns numbers from 0 to below count, in ascending order: all if they are few, and otherwise some from all parts.
func someNumbers(count int64) []int64 {
	var numbers []int64
	for i := range int64(64) {
		numbers = append(numbers, i, count-1-i, count/64*i)
	}
	for power := int64(1); power <= count; power *= 2 {
		numbers = append(numbers, power-1, power, count-power)
	}
	numbers = slices.DeleteFunc(numbers, func(n int64) bool { return n < 0 || n >= count })
	slices.Sort(numbers)
	return slices.Compact(numbers)
}

// P12.3, P12.4, P12.5: languages with many terms.
func TestOrderOfMany(t *testing.T) {
	checkNumbers(t, powers(), symbolS, powersSize, api.MaxCount)
	mixed := numbers("S", input(0), apply(0, "add", 0, 0), apply(0, "neg", 0), constant(0, 1))
	for _, l := range []api.Language{choices(), mixed} {
		for symbol := range l.Symbols {
			for size := 1; size <= api.MaxSize; size++ {
				count, e := counting.Count(l, symbol, size)
				if e != api.OK {
					t.Fatal(symbol, size, count, e)
				}
				checkNumbers(t, l, symbol, size, count)
			}
		}
	}
}

// P12.3: in powers, the number of a program has 10 digits to the base 64, one for each constant.
func TestTermOfPowers(t *testing.T) {
	l := powers()
	n := int64(0)
	var want []string
	for i := range int64(10) {
		digit := (7*i + 3) % 64
		n = 64*n + digit
		want = append(want, strconv.FormatInt(digit, 10))
	}
	x, e := counting.Term(l, symbolS, powersSize, n)
	var got []string
	for _, rule := range preorder(x) {
		if l.Rules[rule].Kind == api.RuleConst {
			got = append(got, l.Rules[rule].Const.Text)
		}
	}
	if e != api.OK || !slices.Equal(got, want) {
		t.Error(got, e, want)
	}
}

// P12.3: ErrMany comes before the error of the number.
func TestTermOfTooMany(t *testing.T) {
	for _, n := range []int64{math.MinInt64, -1, 0, api.MaxCount, math.MaxInt64} {
		if x, e := counting.Term(huge(), symbolH, 20, n); e != api.ErrMany || !sameTerm(x, api.Term{}) {
			t.Error(n, x, e)
		}
	}
	for n, want := range map[int64]api.Errno{0: api.OK, api.MaxCount - 1: api.OK, api.MaxCount: api.ErrRange, -1: api.ErrRange} {
		if x, e := counting.Term(powers(), symbolS, powersSize, n); e != want {
			t.Error(n, x, e)
		}
	}
}

// P12.4: ErrMany comes after the errors of the term.
func TestIndexOfTooMany(t *testing.T) {
	l := numbers("S", apply(0, "mul", 0, 0))
	for i := range int64(64) {
		l.Rules = append(l.Rules, constant(0, i))
	}
	x := leaf(1)
	for size := 1; size < 30; size += 2 {
		want := api.OK
		if _, e := counting.Count(l, 0, min(size, api.MaxSize)); e != api.OK {
			want = e
		}
		if size > api.MaxSize {
			want = api.ErrRange
		}
		if n, e := counting.Index(l, 0, x); e != want || e != api.OK && n != 0 {
			t.Errorf("size %d: %d, %d, not %d", size, n, e, want)
		}
		if n, e := counting.Index(l, 0, node(0, x, node(1, leaf(1)))); n != 0 || e != api.ErrForm {
			t.Errorf("size %d: %d, %d", size, n, e)
		}
		x = node(0, x, leaf(1))
	}
}
