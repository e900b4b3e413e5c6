package domain_test

import (
	"math"
	"testing"

	"synthesis/api"
	"synthesis/domain"
	"synthesis/value"
)

// P19.2, P19.3, P19.7
func TestAll(t *testing.T) {
	for i, d := range small() {
		want := product(d.Axes)
		if n, e := domain.Size(d); n != int64(len(want)) || e != api.OK {
			t.Errorf("case %d: size %d, %d", i, n, e)
		}
		if all, e := domain.All(d); e != api.OK || !sameTuples(all, want) {
			t.Errorf("case %d: %v, %d", i, all, e)
		}
		for n, tuple := range want {
			if got, e := domain.At(d, int64(n)); e != api.OK || !sameTuple(got, tuple) {
				t.Errorf("case %d: number %d is %v, %d, not %v", i, n, got, e, tuple)
			}
		}
		for _, n := range []int64{-1, int64(len(want)), int64(len(want)) + 1, math.MinInt64, math.MaxInt64} {
			if got, e := domain.At(d, n); e != api.ErrRange || got != nil {
				t.Errorf("case %d: number %d is %v, %d", i, n, got, e)
			}
		}
	}
}

// P19.2, P19.3: large domains.
func TestSize(t *testing.T) {
	two, hundred := count(2), count(100)
	for i, x := range []struct {
		d    api.Domain
		size int64
		want api.Errno
	}{
		{of(repeated(two, 12)...), 4096, api.OK},
		{of(count(4097)), 4097, api.OK},
		{of(repeated(two, 60)...), api.MaxCount, api.OK},
		{of(append(repeated(two, 60), count(1))...), api.MaxCount, api.OK},
		{of(append(repeated(two, 58), count(3))...), 3 << 58, api.OK},
		{of(repeated(two, 61)...), 0, api.ErrMany},
		{of(append(repeated(two, 59), count(3))...), 0, api.ErrMany},
		{of(append(repeated(two, 58), count(5))...), 0, api.ErrMany},
		// These would fit again, if numbers were cut to 64 bits.
		{of(repeated(two, 64)...), 0, api.ErrMany},
		{of(repeated(two, 1000)...), 0, api.ErrMany},
		{of(repeated(hundred, 9)...), 1e18, api.OK},
		{of(repeated(hundred, 10)...), 0, api.ErrMany},
		// An empty axis leaves nothing, however large the others are.
		{of(append(repeated(two, 1000), nil)...), 0, api.OK},
		{of(append([][]api.Value{nil}, repeated(two, 1000)...)...), 0, api.OK},
		{of(repeated(count(1), 1000)...), 1, api.OK},
	} {
		if n, e := domain.Size(x.d); n != x.size || e != x.want {
			t.Errorf("case %d: size %d, %d", i, n, e)
		}
		all, e := domain.All(x.d)
		if x.want == api.OK && x.size <= api.MaxDomain {
			if e != api.OK || int64(len(all)) != x.size {
				t.Errorf("case %d: %d tuples, %d", i, len(all), e)
			}
		} else if e != api.ErrMany || all != nil {
			t.Errorf("case %d: %d tuples, %d", i, len(all), e)
		}
		checkEnds(t, i, x.d, x.size, x.want)
	}
}

// checkEnds checks the first and the last tuples of a domain of this size, or with this error of Size.
func checkEnds(t *testing.T, i int, d api.Domain, size int64, e api.Errno) {
	t.Helper()
	for _, n := range []int64{-1, 0, 1, size / 2, size - 1, size} {
		want := e
		if e == api.OK && (n < 0 || n >= size) {
			want = api.ErrRange
		}
		tuple, e := domain.At(d, n)
		if e != want {
			t.Errorf("case %d: number %d is %v, %d", i, n, tuple, e)
		}
		if k, ok := domain.Index(d, tuple); e == api.OK && (k != n || !ok) {
			t.Errorf("case %d: number %d is %v, which has the number %d, %t", i, n, tuple, k, ok)
		}
	}
}

// first follows the definition of Index.
func first(d api.Domain, tuple []api.Value) (int64, bool) {
	for n, x := range product(d.Axes) {
		if sameTuple(x, tuple) {
			return int64(n), true
		}
	}
	return 0, false
}

// P19.4
func TestIndex(t *testing.T) {
	one, a := value.OfInt(1), value.OfText("a")
	others := [][]api.Value{nil, {one}, {a}, {one, a}, {one, one}, {a, one}, {one, one, one}, {one, a, one}, {value.OfBits(1)}, {{}}, {{}, {}}, {value.OfInt(4), a}, {value.OfInts(nil), value.OfTexts([]string{"a"})}}
	for i, d := range small() {
		for _, tuple := range append(product(d.Axes), others...) {
			want, isThere := first(d, tuple)
			if n, ok := domain.Index(d, tuple); n != want || ok != isThere {
				t.Errorf("case %d: %v has the number %d, %t, not %d, %t", i, tuple, n, ok, want, isThere)
			}
		}
	}
	if n, ok := domain.Index(of(repeated(count(2), 61)...), make([]api.Value, 61)); n != 0 || ok {
		t.Error(n, ok)
	}
	var ones []api.Value
	for range 61 {
		ones = append(ones, one)
	}
	if n, ok := domain.Index(of(repeated(count(2), 61)...), ones); n != 0 || ok {
		t.Errorf("a domain that is too large: %d, %t", n, ok)
	}
	if n, ok := domain.Index(of(repeated(count(2), 60)...), ones[1:]); n != 1<<60-1 || !ok {
		t.Errorf("a domain that is just not too large: %d, %t", n, ok)
	}
	if n, ok := domain.Index(of(numbers(7, 8), numbers(1, 2), nil), []api.Value{value.OfInt(8), one}); n != 0 || ok {
		t.Errorf("a tuple that is too short: %d, %t", n, ok)
	}
}

// P19.3, P19.4, P19.7
func TestInverse(t *testing.T) {
	for _, inputs := range [][]int{nil, {api.Int}, {api.Text, api.Bool}, {api.Table, api.Ints, api.Texts, api.Pattern}, {api.Bits, api.Int}} {
		d, e := domain.Small(inputs, 7)
		size, f := domain.Size(d)
		if e != api.OK || f != api.OK {
			t.Fatal(inputs, e, f)
		}
		for n := range size {
			tuple, e := domain.At(d, n)
			if k, ok := domain.Index(d, tuple); e != api.OK || !ok || k != n {
				t.Errorf("%v: number %d is %v, with the number %d", inputs, n, tuple, k)
			}
		}
	}
}
