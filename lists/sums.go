package lists

import "synthesis/api"

// Sum returns the sum.
func Sum(l []int64) (int64, api.Errno) {
	if !arePermitted(l...) {
		return 0, api.ErrRange
	}
	// No list in memory has so many permitted numbers that their sum overflows.
	var sum int64
	for _, n := range l {
		sum += n
	}
	if !arePermitted(sum) {
		return 0, api.ErrRange
	}
	return sum, api.OK
}

// Running returns the sums of the beginnings.
func Running(l []int64) ([]int64, api.Errno) {
	var sum int64
	return changed(l, func(x int64) int64 {
		sum += x
		return sum
	})
}

// Shift adds n to each element.
func Shift(l []int64, n int64) ([]int64, api.Errno) {
	if !arePermitted(n) {
		return nil, api.ErrRange
	}
	return changed(l, func(x int64) int64 { return x + n })
}

// Scale multiplies each element by n.
func Scale(l []int64, n int64) ([]int64, api.Errno) {
	if !arePermitted(n) {
		return nil, api.ErrRange
	}
	return changed(l, func(x int64) int64 { return x * n })
}

// Zip adds two lists element by element, up to the end of the shorter one.
func Zip(a, b []int64) ([]int64, api.Errno) {
	// The elements without a partner are in no sum, but must be permitted too.
	if !arePermitted(a...) || !arePermitted(b...) {
		return nil, api.ErrRange
	}
	sums := make([]int64, min(len(a), len(b)))
	for i := range sums {
		sums[i] = a[i] + b[i]
	}
	return ifPermitted(sums)
}

// changed returns what change makes of the elements, from the first to the last; ErrRange if an element or a result is not permitted.
func changed(l []int64, change func(int64) int64) ([]int64, api.Errno) {
	// The elements are checked before the change, which could overflow otherwise.
	if !arePermitted(l...) {
		return nil, api.ErrRange
	}
	results := make([]int64, len(l))
	for i, x := range l {
		results[i] = change(x)
	}
	return ifPermitted(results)
}

// ifPermitted returns the results, or ErrRange if one of them is not permitted.
func ifPermitted(results []int64) ([]int64, api.Errno) {
	if !arePermitted(results...) {
		return nil, api.ErrRange
	}
	return results, api.OK
}

func arePermitted(numbers ...int64) bool {
	for _, n := range numbers {
		if n < -api.MaxInt || n > api.MaxInt {
			return false
		}
	}
	return true
}
