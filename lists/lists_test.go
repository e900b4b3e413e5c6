package lists_test

import (
	"math"
	"slices"
	"testing"

	"synthesis/api"
	"synthesis/lists"
)

// listsOf returns all lists of at most n of the numbers.
func listsOf(n int, numbers ...int64) [][]int64 {
	all := [][]int64{nil}
	last := all
	for range n {
		var next [][]int64
		for _, l := range last {
			for _, x := range numbers {
				next = append(next, append(slices.Clone(l), x))
			}
		}
		all = append(all, next...)
		last = next
	}
	return all
}

// shortLists has small numbers, and numbers that are not permitted: the functions of parts take any.
func shortLists() [][]int64 {
	return append(listsOf(5, -2, -1, 0, 3), listsOf(3, math.MinInt64, -1000001, 1, 1000001, math.MaxInt64)[1:]...)
}

// indices are numbers around those of a list of n elements.
func indices(n int) []int {
	all := []int{math.MinInt, math.MinInt + 1, math.MaxInt - 1, math.MaxInt}
	for k := -n - 2; k <= n+2; k++ {
		all = append(all, k)
	}
	return all
}

func checkNumber(t *testing.T, name string, got int64, e api.Errno, want int64, wantError api.Errno) {
	t.Helper()
	if got != want || e != wantError {
		t.Errorf("%s is %d, %d, not %d, %d", name, got, e, want, wantError)
	}
}

func checkList(t *testing.T, name string, got []int64, e api.Errno, want []int64, wantError api.Errno) {
	t.Helper()
	if !slices.Equal(got, want) || e != wantError {
		t.Errorf("%s is %v, %d, not %v, %d", name, got, e, want, wantError)
	}
}

// P7.1
func TestElement(t *testing.T) {
	for _, l := range shortLists() {
		for _, k := range indices(len(l)) {
			want, wantError := int64(0), api.ErrNone
			for i, n := range l {
				if k == i || k == i-len(l) {
					want, wantError = n, api.OK
				}
			}
			if got, e := lists.Element(l, k); got != want || e != wantError {
				t.Fatalf("Element(%v, %d) is %d, %d, not %d, %d", l, k, got, e, want, wantError)
			}
		}
	}
	got, e := lists.Element([]int64{1, 2, 3}, -4)
	checkNumber(t, "Element(1 2 3, -4)", got, e, 0, api.ErrNone)
}

// P7.1
func TestHeadLastMaxMin(t *testing.T) {
	type function func([]int64) (int64, api.Errno)
	for _, x := range []struct {
		l                    []int64
		head, last, max, min int64
		e                    api.Errno
	}{
		{nil, 0, 0, 0, 0, api.ErrNone},
		{[]int64{}, 0, 0, 0, 0, api.ErrNone},
		{[]int64{7}, 7, 7, 7, 7, api.OK},
		{[]int64{2, 3, 1}, 2, 1, 3, 1, api.OK},
		{[]int64{-2, -3, -3, -1, -2}, -2, -2, -1, -3, api.OK},
		{[]int64{5, math.MinInt64, math.MaxInt64, 4}, 5, 4, math.MaxInt64, math.MinInt64, api.OK},
	} {
		for name, f := range map[string]struct {
			call function
			want int64
		}{"Head": {lists.Head, x.head}, "Last": {lists.Last, x.last}, "Max": {lists.Max, x.max}, "Min": {lists.Min, x.min}} {
			got, e := f.call(x.l)
			checkNumber(t, name, got, e, f.want, x.e)
		}
	}
	for _, l := range shortLists()[1:] {
		greatest, e := lists.Max(l)
		least, f := lists.Min(l)
		if e != api.OK || f != api.OK || !slices.Contains(l, greatest) || !slices.Contains(l, least) {
			t.Fatalf("Max and Min of %v are %d, %d and %d, %d", l, greatest, e, least, f)
		}
		for _, n := range l {
			if n > greatest || n < least {
				t.Fatalf("Max and Min of %v are %d and %d", l, greatest, least)
			}
		}
	}
}

// P7.2 and P7.8
func TestTakeAndDrop(t *testing.T) {
	for _, l := range shortLists() {
		for _, n := range indices(len(l)) {
			var first, others []int64
			for i, x := range l {
				if i < n {
					first = append(first, x)
				} else {
					others = append(others, x)
				}
			}
			taken, dropped := lists.Take(l, n), lists.Drop(l, n)
			if !slices.Equal(taken, first) || !slices.Equal(dropped, others) {
				t.Fatalf("%v at %d is %v and %v, not %v and %v", l, n, taken, dropped, first, others)
			}
			if !slices.Equal(slices.Concat(taken, dropped), l) {
				t.Fatalf("%v at %d is not %v and %v", l, n, taken, dropped)
			}
		}
	}
}

// P7.2 and P7.8
func TestReverse(t *testing.T) {
	for _, l := range shortLists() {
		var want []int64
		for _, n := range l {
			want = append([]int64{n}, want...)
		}
		if got := lists.Reverse(l); !slices.Equal(got, want) {
			t.Fatalf("Reverse(%v) is %v, not %v", l, got, want)
		}
		if got := lists.Reverse(lists.Reverse(l)); !slices.Equal(got, l) {
			t.Fatalf("Reverse of Reverse of %v is %v", l, got)
		}
	}
}

// P7.3 and P7.8
func TestSort(t *testing.T) {
	for _, l := range shortLists() {
		sorted := lists.Sort(l)
		for i := range sorted {
			if i > 0 && sorted[i-1] > sorted[i] || lists.Count(sorted, sorted[i]) != lists.Count(l, sorted[i]) {
				t.Fatalf("Sort(%v) is %v", l, sorted)
			}
		}
		if len(sorted) != len(l) || !slices.Equal(lists.Sort(sorted), sorted) || !slices.Equal(lists.Sort(lists.Reverse(l)), sorted) {
			t.Fatalf("Sort(%v) is %v", l, sorted)
		}
		if len(l) > 0 {
			least, _ := lists.Min(l)
			greatest, _ := lists.Max(l)
			if sorted[0] != least || sorted[len(l)-1] != greatest {
				t.Fatalf("Sort(%v) is %v, but Min is %d and Max %d", l, sorted, least, greatest)
			}
		}
	}
	checkList(t, "Sort", lists.Sort([]int64{3, math.MaxInt64, -1, 3, math.MinInt64}), api.OK, []int64{math.MinInt64, -1, 3, 3, math.MaxInt64}, api.OK)
}

// P7.3
func TestUniqueAndCount(t *testing.T) {
	for _, l := range shortLists() {
		var want []int64
		for i, n := range l {
			if slices.Index(l, n) == i {
				want = append(want, n)
			}
		}
		if got := lists.Unique(l); !slices.Equal(got, want) {
			t.Fatalf("Unique(%v) is %v, not %v", l, got, want)
		}
		for _, n := range []int64{math.MinInt64, -2, -1, 0, 1, 2, 3, math.MaxInt64} {
			times := len(l) - len(slices.DeleteFunc(slices.Clone(l), func(x int64) bool { return x == n }))
			if got := lists.Count(l, n); got != times {
				t.Fatalf("Count(%v, %d) is %d, not %d", l, n, got, times)
			}
		}
	}
	checkList(t, "Unique(2 1 2)", lists.Unique([]int64{2, 1, 2}), api.OK, []int64{2, 1}, api.OK)
}

// P7.4
func TestAboveAndEven(t *testing.T) {
	all := []int64{math.MinInt64, math.MinInt64 + 1, -3, -2, -1, 0, 5, 4, 3, 2, 2, 1, 0, math.MaxInt64 - 1, math.MaxInt64}
	checkList(t, "Even", lists.Even(all), api.OK, []int64{math.MinInt64, -2, 0, 4, 2, 2, 0, math.MaxInt64 - 1}, api.OK)
	checkList(t, "Even(-2 -1 0)", lists.Even([]int64{-2, -1, 0}), api.OK, []int64{-2, 0}, api.OK)
	checkList(t, "Even of nothing", lists.Even(nil), api.OK, nil, api.OK)
	for n, want := range map[int64][]int64{
		math.MinInt64:     all[1:],
		-1:                {0, 5, 4, 3, 2, 2, 1, 0, math.MaxInt64 - 1, math.MaxInt64},
		0:                 {5, 4, 3, 2, 2, 1, math.MaxInt64 - 1, math.MaxInt64},
		2:                 {5, 4, 3, math.MaxInt64 - 1, math.MaxInt64},
		math.MaxInt64 - 1: {math.MaxInt64},
		math.MaxInt64:     nil,
	} {
		checkList(t, "Above", lists.Above(all, n), api.OK, want, api.OK)
	}
	checkList(t, "Above of nothing", lists.Above(nil, -1), api.OK, nil, api.OK)
}

// P7.7
func TestAppend(t *testing.T) {
	numbers := []int64{1000001, -1, 0, 1, math.MinInt64, 5, 5, 7, 8, 9, 10, 11, 12, 13, 14, 15, 16, 17}
	for n := range len(numbers) + 1 {
		for m := range len(numbers) + 1 {
			a, b := numbers[:n], numbers[len(numbers)-m:]
			var want []int64
			wantError := api.ErrSize
			if n+m <= 16 {
				want, wantError = slices.Concat(a, b), api.OK
			}
			got, e := lists.Append(a, b)
			checkList(t, "Append", got, e, want, wantError)
		}
	}
	got, e := lists.Append(nil, nil)
	checkList(t, "Append of nothing", got, e, nil, api.OK)
}

// Lists may have any length.
func TestLongLists(t *testing.T) {
	const n = 400000
	long := make([]int64, n)
	for i := range long {
		long[i] = int64(n - i)
	}
	if l := lists.Unique(append(long, long...)); !slices.Equal(l, long) {
		t.Errorf("Unique has %d elements", len(l))
	}
	if l := lists.Sort(long); !slices.IsSorted(l) || len(l) != n {
		t.Errorf("Sort has %d elements", len(l))
	}
	if l := lists.Above(long, 10); len(l) != n-10 {
		t.Errorf("Above has %d elements", len(l))
	}
	if l := lists.Even(long); len(l) != n/2 {
		t.Errorf("Even has %d elements", len(l))
	}
	if a, b := lists.Take(long, n-1), lists.Drop(long, n-1); len(a) != n-1 || !slices.Equal(b, []int64{1}) {
		t.Errorf("Take has %d elements, Drop %d", len(a), len(b))
	}
}

// listFunctions returns the functions that return a list, with all arguments but the lists given.
func listFunctions() map[string]func(a, b []int64) []int64 {
	of := func(l []int64, _ api.Errno) []int64 { return l }
	return map[string]func(a, b []int64) []int64{
		"Take":    func(a, b []int64) []int64 { return lists.Take(a, 2) },
		"Drop":    func(a, b []int64) []int64 { return lists.Drop(a, 1) },
		"Reverse": func(a, b []int64) []int64 { return lists.Reverse(a) },
		"Sort":    func(a, b []int64) []int64 { return lists.Sort(a) },
		"Unique":  func(a, b []int64) []int64 { return lists.Unique(a) },
		"Shift":   func(a, b []int64) []int64 { return of(lists.Shift(a, 0)) },
		"Scale":   func(a, b []int64) []int64 { return of(lists.Scale(a, 1)) },
		"Above":   func(a, b []int64) []int64 { return lists.Above(a, 0) },
		"Even":    func(a, b []int64) []int64 { return lists.Even(a) },
		"Zip":     func(a, b []int64) []int64 { return of(lists.Zip(a, b)) },
		"Append":  func(a, b []int64) []int64 { return of(lists.Append(a, b)) },
		"First":   func(a, b []int64) []int64 { return of(lists.Append(a, nil)) },
		"Second":  func(a, b []int64) []int64 { return of(lists.Append(nil, b)) },
		"Running": func(a, b []int64) []int64 { return of(lists.Running(a)) },
	}
}

// Rule 5: arguments are not modified, and results are new memory.
func TestResultsAreNewMemory(t *testing.T) {
	for name, f := range listFunctions() {
		// The lists have elements behind their ends, which must stay as they are too.
		wholeA, wholeB := []int64{6, 2, 8, 2, 50, 51, 52, 53}, []int64{3, 1, 60, 61, 62, 63}
		first := f(wholeA[:4], wholeB[:2])
		second := f(wholeA[:4], wholeB[:2])
		if len(first) == 0 || !slices.Equal(first, second) {
			t.Errorf("%s is %v, and then %v", name, first, second)
		}
		for i := range first[:cap(first)] {
			first[:cap(first)][i] = 99
		}
		if !slices.Equal(wholeA, []int64{6, 2, 8, 2, 50, 51, 52, 53}) || !slices.Equal(wholeB, []int64{3, 1, 60, 61, 62, 63}) {
			t.Errorf("%s: the arguments have become %v and %v", name, wholeA, wholeB)
		}
		if slices.Contains(second, 99) {
			t.Errorf("%s shares memory with an earlier result: %v", name, second)
		}
	}
}
