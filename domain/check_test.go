package domain_test

import (
	"strings"
	"testing"

	"synthesis/api"
	"synthesis/domain"
	"synthesis/value"
)

type checkCase struct {
	d      api.Domain
	inputs []int
	want   api.Errno
}

// checkCases returns domains with their errors.
func checkCases() []checkCase {
	one, two := value.OfInt(1), value.OfInt(2)
	tooGreat, hasText, noType := value.OfInt(api.MaxInt+1), api.Value{Type: api.Int, Num: 1, Text: "a"}, api.Value{}
	tooLong := value.OfText(strings.Repeat("a", api.MaxText+1))
	lists := []api.Value{value.OfInts(nil), value.OfInts([]int64{1}), value.OfInts([]int64{1, 1}), value.OfInts([]int64{0})}
	return []checkCase{
		{api.Domain{}, nil, api.OK},
		{of(nil), []int{api.Int}, api.OK},
		{of([]api.Value{}, nil), []int{api.Text, api.Table}, api.OK},
		{of(numbers(1, 2)), []int{api.Int}, api.OK},
		{of(numbers(2, -1, 1)), []int{api.Int}, api.OK},
		{of(numbers(1, 2), texts("", "a")), []int{api.Int, api.Text}, api.OK},
		{of(lists, lists), []int{api.Ints, api.Ints}, api.OK},
		{of(numbers(1), numbers(1), numbers(1), numbers(1), numbers(1)), []int{2, 2, 2, 2, 2}, api.OK},
		// An axis without values has none of a wrong type.
		{of(nil), []int{0}, api.OK},
		{of(nil, numbers(1)), []int{-5, api.Int}, api.OK},
		// The number of axes.
		{api.Domain{}, []int{api.Int}, api.ErrSize},
		{of(nil), nil, api.ErrSize},
		{of(numbers(1)), nil, api.ErrSize},
		{of(numbers(1), numbers(1)), []int{api.Int}, api.ErrSize},
		{of(numbers(1)), []int{api.Int, api.Int}, api.ErrSize},
		// The values.
		{of([]api.Value{tooGreat}), []int{api.Int}, api.ErrRange},
		{of([]api.Value{one, tooGreat}), []int{api.Int}, api.ErrRange},
		{of([]api.Value{hasText}), []int{api.Int}, api.ErrForm},
		{of([]api.Value{noType}), []int{api.Int}, api.ErrType},
		{of([]api.Value{tooLong}), []int{api.Text}, api.ErrSize},
		{of(numbers(1), []api.Value{tooLong}), []int{api.Int, api.Text}, api.ErrSize},
		// The types.
		{of(texts("a")), []int{api.Int}, api.ErrType},
		{of([]api.Value{one, two, value.OfBits(3)}), []int{api.Int}, api.ErrType},
		{of(numbers(1), texts("a")), []int{api.Text, api.Int}, api.ErrType},
		{of(numbers(1)), []int{0}, api.ErrType},
		// Repetitions.
		{of(numbers(1, 1)), []int{api.Int}, api.ErrTwice},
		{of(numbers(1, 2, 3, 1)), []int{api.Int}, api.ErrTwice},
		{of(numbers(1, 2, 3, 2)), []int{api.Int}, api.ErrTwice},
		{of(numbers(1, 2), texts("a", "", "a")), []int{api.Int, api.Text}, api.ErrTwice},
		{of(append([]api.Value{value.OfInts([]int64{1, 1})}, lists...)), []int{api.Ints}, api.ErrTwice},
		{of(append(count(4096), numbers(0)...), nil), []int{api.Int, api.Int}, api.ErrTwice},
		// The number of tuples.
		{of(count(64), count(64)), []int{api.Int, api.Int}, api.OK},
		{of(count(4096), count(1)), []int{api.Int, api.Int}, api.OK},
		{of(count(4097)), []int{api.Int}, api.ErrMany},
		{of(count(64), count(64), count(2)), []int{api.Int, api.Int, api.Int}, api.ErrMany},
		{of(count(65), count(64)), []int{api.Int, api.Int}, api.ErrMany},
		{of(repeated(count(2), 64)...), ints(64), api.ErrMany},
		{of(repeated(count(2), 65)...), ints(65), api.ErrMany},
		{of(append(repeated(count(2), 64), nil)...), ints(65), api.OK},
		{of(count(20000), nil), ints(2), api.OK},
	}
}

// orderCases returns domains with several errors, of which the first counts.
func orderCases() []checkCase {
	one, tooGreat, hasText, wrong := value.OfInt(1), value.OfInt(api.MaxInt+1), api.Value{Type: api.Int, Num: 1, Text: "a"}, value.OfText("a")
	tooLong := value.OfText(strings.Repeat("a", api.MaxText+1))
	return []checkCase{
		{of([]api.Value{tooGreat, wrong}, nil), []int{api.Int}, api.ErrSize},
		{of(count(4097)), nil, api.ErrSize},
		{of([]api.Value{tooLong}), []int{api.Int}, api.ErrSize},
		{of([]api.Value{value.OfBits(-1)}), []int{api.Int}, api.ErrRange},
		{of([]api.Value{tooGreat, wrong}), []int{api.Int}, api.ErrRange},
		{of([]api.Value{wrong, tooGreat}), []int{api.Int}, api.ErrType},
		{of([]api.Value{hasText, tooGreat}), []int{api.Int}, api.ErrForm},
		{of([]api.Value{wrong, wrong}), []int{api.Int}, api.ErrType},
		{of([]api.Value{tooGreat, tooGreat}), []int{api.Int}, api.ErrRange},
		{of([]api.Value{one, one, tooGreat}), []int{api.Int}, api.ErrTwice},
		{of([]api.Value{one, tooGreat, one}), []int{api.Int}, api.ErrRange},
		{of([]api.Value{one, wrong, one}), []int{api.Int}, api.ErrType},
		{of([]api.Value{one, value.OfInt(2), one, wrong}), []int{api.Int}, api.ErrTwice},
		{of([]api.Value{one, one}, []api.Value{tooGreat}), []int{api.Int, api.Int}, api.ErrTwice},
		{of([]api.Value{one}, []api.Value{tooGreat}, []api.Value{one, one}), ints(3), api.ErrRange},
		{of(count(4097), []api.Value{tooGreat}), ints(2), api.ErrRange},
		{of(count(4097), []api.Value{one, one}), ints(2), api.ErrTwice},
		{of(append(count(4097), wrong)), ints(1), api.ErrType},
	}
}

// ints returns as many types of integers as wanted.
func ints(length int) []int {
	var types []int
	for range length {
		types = append(types, api.Int)
	}
	return types
}

// P19.1
func TestCheck(t *testing.T) {
	for i, x := range append(checkCases(), orderCases()...) {
		if e := domain.Check(x.d, x.inputs); e != x.want {
			t.Errorf("case %d: %d, not %d", i, e, x.want)
		}
	}
}

// P19.1: each way to put four values, some of which are wrong, on an axis.
func TestCheckAxes(t *testing.T) {
	choices := []api.Value{value.OfInt(1), value.OfInt(2), value.OfText("a"), value.OfInt(-api.MaxInt - 1), value.OfBits(1)}
	errnos := []api.Errno{api.OK, api.OK, api.ErrType, api.ErrRange, api.ErrType}
	for n := range 5 * 5 * 5 * 5 {
		var axis []api.Value
		want := api.OK
		isThere := map[int]bool{}
		for rest := n; len(axis) < 4; rest /= 5 {
			k := rest % 5
			axis = append(axis, choices[k])
			if want == api.OK {
				want = errnos[k]
			}
			if want == api.OK && isThere[k] {
				want = api.ErrTwice
			}
			isThere[k] = true
		}
		if e := domain.Check(of(axis), []int{api.Int}); e != want {
			t.Errorf("%v: %d, not %d", axis, e, want)
		}
	}
}
