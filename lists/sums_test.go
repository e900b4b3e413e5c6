package lists_test

import (
	"math"
	"math/big"
	"slices"
	"testing"

	"synthesis/api"
	"synthesis/lists"
)

// boundaries are permitted and other numbers, some of which would overflow to permitted ones.
var boundaries = []int64{math.MinInt64, -1 << 32, -1000001, -1000000, -1, 0, 1, 2, 1000000, 1000001, 1 << 32, math.MaxInt64}

func isPermitted(n *big.Int) bool { return n.CmpAbs(big.NewInt(1000000)) <= 0 }

func exact(l []int64) []*big.Int {
	var all []*big.Int
	for _, n := range l {
		all = append(all, big.NewInt(n))
	}
	return all
}

// expected returns the results, or ErrRange if one of the arguments or of the results is not permitted.
func expected(arguments, results []*big.Int) ([]int64, api.Errno) {
	var numbers []int64
	for _, n := range arguments {
		if !isPermitted(n) {
			return nil, api.ErrRange
		}
	}
	for _, n := range results {
		if !isPermitted(n) {
			return nil, api.ErrRange
		}
		numbers = append(numbers, n.Int64())
	}
	return numbers, api.OK
}

// P7.5 and P7.8
func TestSumAndRunning(t *testing.T) {
	for _, l := range append(listsOf(4, boundaries...), listsOf(6, -1000000, -1, 2, 1000000)...) {
		sum := new(big.Int)
		var sums []*big.Int
		for _, n := range exact(l) {
			sum.Add(sum, n)
			sums = append(sums, new(big.Int).Set(sum))
		}
		wantSum, e := expected(exact(l), []*big.Int{sum})
		if e != api.OK {
			wantSum = []int64{0}
		}
		if got, f := lists.Sum(l); got != wantSum[0] || f != e {
			t.Fatalf("Sum(%v) is %d, %d, not %d, %d", l, got, f, wantSum[0], e)
		}
		wantSums, e := expected(exact(l), sums)
		got, f := lists.Running(l)
		if !slices.Equal(got, wantSums) || f != e {
			t.Fatalf("Running(%v) is %v, %d, not %v, %d", l, got, f, wantSums, e)
		}
		if f == api.OK && len(l) > 0 && got[len(l)-1] != wantSum[0] {
			t.Fatalf("Running(%v) is %v, but Sum is %d", l, got, wantSum[0])
		}
	}
}

// P7.5
func TestSumExamples(t *testing.T) {
	got, e := lists.Sum(nil)
	checkNumber(t, "Sum of nothing", got, e, 0, api.OK)
	got, e = lists.Sum([]int64{1000000, 1, -1})
	checkNumber(t, "Sum(1000000 1 -1)", got, e, 1000000, api.OK)
	got, e = lists.Sum([]int64{1000000, 1})
	checkNumber(t, "Sum(1000000 1)", got, e, 0, api.ErrRange)
	got, e = lists.Sum([]int64{1000001, -5})
	checkNumber(t, "Sum(1000001 -5)", got, e, 0, api.ErrRange)
	sums, e := lists.Running([]int64{1000000, 1, -1})
	checkList(t, "Running(1000000 1 -1)", sums, e, nil, api.ErrRange)
	sums, e = lists.Running([]int64{1, 2, 3})
	checkList(t, "Running(1 2 3)", sums, e, []int64{1, 3, 6}, api.OK)
	sums, e = lists.Running(nil)
	checkList(t, "Running of nothing", sums, e, nil, api.OK)
}

// P7.5: sums of many elements, which need more than 32 bits on the way.
func TestLongSums(t *testing.T) {
	const n = 200000
	up, down := slices.Repeat([]int64{1000000}, n), slices.Repeat([]int64{-1000000}, n)
	got, e := lists.Sum(append(slices.Clone(up), down...))
	checkNumber(t, "Sum of numbers and their negatives", got, e, 0, api.OK)
	got, e = lists.Sum(up)
	checkNumber(t, "Sum of great numbers", got, e, 0, api.ErrRange)
	sums, e := lists.Running(slices.Repeat([]int64{5}, n))
	if len(sums) != n || sums[n-1] != 5*n || e != api.OK {
		t.Errorf("Running of many numbers has %d sums, %d", len(sums), e)
	}
}

// P7.6
func TestShiftAndScale(t *testing.T) {
	for _, l := range append(listsOf(3, boundaries...), listsOf(2, -1001, -1000, -999, 0, 999, 1000, 1001)...) {
		for _, n := range append([]int64{-1001, -1000, 999, 1000, 1001}, boundaries...) {
			arguments := append(exact(l), big.NewInt(n))
			var shifted, scaled []*big.Int
			for _, x := range exact(l) {
				shifted = append(shifted, new(big.Int).Add(x, big.NewInt(n)))
				scaled = append(scaled, new(big.Int).Mul(x, big.NewInt(n)))
			}
			want, e := expected(arguments, shifted)
			if got, f := lists.Shift(l, n); !slices.Equal(got, want) || f != e {
				t.Fatalf("Shift(%v, %d) is %v, %d, not %v, %d", l, n, got, f, want, e)
			}
			want, e = expected(arguments, scaled)
			if got, f := lists.Scale(l, n); !slices.Equal(got, want) || f != e {
				t.Fatalf("Scale(%v, %d) is %v, %d, not %v, %d", l, n, got, f, want, e)
			}
		}
	}
	l, e := lists.Scale(nil, 2000000)
	checkList(t, "Scale of nothing by 2000000", l, e, nil, api.ErrRange)
	l, e = lists.Shift(nil, -2000000)
	checkList(t, "Shift of nothing by -2000000", l, e, nil, api.ErrRange)
	l, e = lists.Shift([]int64{3, -1}, -2)
	checkList(t, "Shift(3 -1, -2)", l, e, []int64{1, -3}, api.OK)
	l, e = lists.Scale([]int64{3, -1}, -2)
	checkList(t, "Scale(3 -1, -2)", l, e, []int64{-6, 2}, api.OK)
}

// P7.6 and P7.8
func TestZip(t *testing.T) {
	all := append(listsOf(2, boundaries...), listsOf(3, -1, 2, 500000, 1000001)...)
	for _, a := range all {
		for _, b := range all {
			var sums []*big.Int
			for i := 0; i < len(a) && i < len(b); i++ {
				sums = append(sums, new(big.Int).Add(big.NewInt(a[i]), big.NewInt(b[i])))
			}
			want, e := expected(append(exact(a), exact(b)...), sums)
			got, f := lists.Zip(a, b)
			if !slices.Equal(got, want) || f != e {
				t.Fatalf("Zip(%v, %v) is %v, %d, not %v, %d", a, b, got, f, want, e)
			}
			if commuted, g := lists.Zip(b, a); !slices.Equal(commuted, got) || g != f {
				t.Fatalf("Zip(%v, %v) is %v, %d, but %v, %d the other way round", a, b, got, f, commuted, g)
			}
		}
	}
	l, e := lists.Zip([]int64{1, 2}, []int64{10})
	checkList(t, "Zip(1 2, 10)", l, e, []int64{11}, api.OK)
	l, e = lists.Zip([]int64{1, 2000000}, []int64{10})
	checkList(t, "Zip(1 2000000, 10)", l, e, nil, api.ErrRange)
	l, e = lists.Zip(nil, []int64{2000000})
	checkList(t, "Zip(nothing, 2000000)", l, e, nil, api.ErrRange)
}
