package domain_test

import (
	"slices"
	"strings"
	"testing"

	"synthesis/api"
	"synthesis/domain"
	"synthesis/value"
)

// firstValues follows the definition of the first values of a type.
func firstValues(t, n int) []api.Value {
	var axis []api.Value
	texts := lettersInOrder(n + 1)
	for i := range n {
		number := int64(i+1) / 2
		switch t {
		case api.Bool:
			if i < 2 {
				axis = append(axis, value.OfBool(i == 1))
			}
		case api.Bits:
			axis = append(axis, value.OfBits(int64(i)))
		case api.Int:
			if i%2 == 0 {
				number = -number
			}
			axis = append(axis, value.OfInt(number))
		case api.Text:
			axis = append(axis, value.OfText(texts[i]))
		case api.Pattern:
			axis = append(axis, value.OfPattern(texts[i+1]))
		case api.Ints:
			axis = append(axis, listOf(texts[i], func(s string) api.Value { return value.OfInt(int64(strings.Index("ab", s))) }, api.Ints))
		case api.Texts:
			axis = append(axis, listOf(texts[i], func(s string) api.Value { return value.OfText(map[string]string{"a": "", "b": "a"}[s]) }, api.Texts))
		case api.Table:
			axis = append(axis, table(texts[i]))
		}
	}
	return axis
}

// listOf returns the list with what the letters of a text become.
func listOf(text string, become func(string) api.Value, t int) api.Value {
	v := api.Value{Type: t}
	for _, s := range strings.Split(text, "") {
		v.Items = append(v.Items, become(s))
	}
	return v
}

// P19.5: all types and numbers.
func TestSmallOfOneType(t *testing.T) {
	for _, input := range []int{api.Bool, api.Int, api.Text, api.Bits, api.Ints, api.Texts, api.Table, api.Pattern} {
		for n := range api.MaxChoices + 1 {
			d, e := domain.Small([]int{input}, n)
			if e != api.OK || !sameDomain(d, of(firstValues(input, n))) {
				t.Errorf("%d values of the type %d: %v, %d", n, input, d, e)
			}
			if e := domain.Check(d, []int{input}); e != api.OK {
				t.Errorf("%d values of the type %d: %d", n, input, e)
			}
		}
	}
}

// P19.5: the values written out.
func TestSmallValues(t *testing.T) {
	row := func(cells ...string) [][]string {
		var rows [][]string
		for _, s := range cells {
			rows = append(rows, []string{s})
		}
		return rows
	}
	for i, x := range []struct {
		input int
		want  []api.Value
	}{
		{api.Bool, []api.Value{value.OfBool(false), value.OfBool(true)}},
		{api.Int, numbers(0, 1, -1, 2, -2, 3, -3, 4)},
		{api.Text, texts("", "a", "b", "aa", "ab", "ba", "bb", "aaa")},
		{api.Bits, []api.Value{value.OfBits(0), value.OfBits(1), value.OfBits(2), value.OfBits(3), value.OfBits(4), value.OfBits(5), value.OfBits(6), value.OfBits(7)}},
		{api.Ints, []api.Value{value.OfInts(nil), value.OfInts([]int64{0}), value.OfInts([]int64{1}), value.OfInts([]int64{0, 0}), value.OfInts([]int64{0, 1}), value.OfInts([]int64{1, 0}), value.OfInts([]int64{1, 1}), value.OfInts([]int64{0, 0, 0})}},
		{api.Texts, []api.Value{value.OfTexts(nil), value.OfTexts([]string{""}), value.OfTexts([]string{"a"}), value.OfTexts([]string{"", ""}), value.OfTexts([]string{"", "a"}), value.OfTexts([]string{"a", ""}), value.OfTexts([]string{"a", "a"}), value.OfTexts([]string{"", "", ""})}},
		{api.Table, []api.Value{value.OfTable(nil), value.OfTable(row("")), value.OfTable(row("a")), value.OfTable(row("", "")), value.OfTable(row("", "a")), value.OfTable(row("a", "")), value.OfTable(row("a", "a")), value.OfTable(row("", "", ""))}},
		{api.Pattern, []api.Value{value.OfPattern("a"), value.OfPattern("b"), value.OfPattern("aa"), value.OfPattern("ab"), value.OfPattern("ba"), value.OfPattern("bb"), value.OfPattern("aaa"), value.OfPattern("aab")}},
	} {
		if d, e := domain.Small([]int{x.input}, 8); e != api.OK || !sameDomain(d, of(x.want)) {
			t.Errorf("case %d: %v, %d", i, d, e)
		}
	}
}

// P19.5, P19.7: several types, and errors.
func TestSmall(t *testing.T) {
	for i, x := range []struct {
		inputs []int
		n      int
		want   api.Errno
	}{
		{nil, 0, api.OK}, {nil, 64, api.OK}, {[]int{api.Int, api.Bool}, 3, api.OK}, {[]int{1, 2, 3, 4}, 8, api.OK}, {[]int{5, 6, 7, 8}, 8, api.OK}, {[]int{2, 2}, 64, api.OK}, {[]int{1, 1, 1, 1}, 64, api.OK}, {[]int{2, 2, 2}, 16, api.OK}, {[]int{2, 2, 2, 2}, 0, api.OK}, {[]int{2, 1, 2, 1}, 32, api.OK},
		{[]int{2, 2, 2, 2, 2}, 1, api.ErrSize}, {[]int{2, 2, 2, 2, 2}, 0, api.ErrSize},
		{[]int{0}, 1, api.ErrType}, {[]int{9}, 0, api.ErrType}, {[]int{2, -1}, 1, api.ErrType}, {[]int{1 << 40, 2}, 1, api.ErrType},
		{[]int{2}, -1, api.ErrRange}, {[]int{2}, 65, api.ErrRange}, {nil, 65, api.ErrRange}, {nil, -1, api.ErrRange}, {[]int{1}, 1 << 60, api.ErrRange}, {[]int{1}, -1 << 63, api.ErrRange},
		{[]int{2, 2, 2}, 17, api.ErrMany}, {[]int{2, 2, 1}, 64, api.ErrMany}, {[]int{2, 2, 2, 2}, 64, api.ErrMany}, {[]int{2, 2, 2, 2}, 9, api.ErrMany}, {[]int{2, 1, 2, 1}, 33, api.ErrMany},
		// The order of the errors.
		{[]int{0, 2, 2, 2, 2}, 65, api.ErrSize}, {[]int{2, 2, 2, 0}, 65, api.ErrType}, {[]int{2, 2, 2, 9}, 64, api.ErrType}, {[]int{2, 2, 2}, 65, api.ErrRange},
	} {
		d, e := domain.Small(x.inputs, x.n)
		want := api.Domain{}
		for _, input := range x.inputs {
			if x.want == api.OK {
				want.Axes = append(want.Axes, firstValues(input, x.n))
			}
		}
		if e != x.want || !sameDomain(d, want) {
			t.Errorf("case %d: %v, %d", i, d, e)
		}
		if e := domain.Check(d, x.inputs); x.want == api.OK && e != api.OK {
			t.Errorf("case %d: %d", i, e)
		}
	}
}

// keeps returns all lists of as many truth values as wanted.
func keeps(length int) [][]bool {
	if length == 0 {
		return [][]bool{nil}
	}
	var all [][]bool
	for _, rest := range keeps(length - 1) {
		all = append(all, append([]bool{false}, rest...), append([]bool{true}, rest...))
	}
	return all
}

// P19.6, P19.7
func TestRestrict(t *testing.T) {
	for i, d := range small() {
		for axis := range d.Axes {
			for _, keep := range keeps(min(len(d.Axes[axis]), 8)) {
				for len(keep) < len(d.Axes[axis]) {
					keep = append(keep, len(keep)%2 == 0)
				}
				checkRestriction(t, i, d, axis, keep)
			}
			length := len(d.Axes[axis])
			for _, keep := range [][]bool{make([]bool, length+1), make([]bool, length)[:max(0, length-1)]} {
				if r, e := domain.Restrict(d, axis, keep); len(keep) != length && (e != api.ErrSize || r.Axes != nil) {
					t.Errorf("case %d: %v, %d", i, r, e)
				}
			}
		}
		for _, axis := range []int{-1, len(d.Axes), len(d.Axes) + 1, -1 << 63, 1<<63 - 1} {
			if r, e := domain.Restrict(d, axis, []bool{true, true}); e != api.ErrRange || r.Axes != nil {
				t.Errorf("case %d, axis %d: %v, %d", i, axis, r, e)
			}
		}
	}
}

// checkRestriction checks that the tuples of a restricted domain are those, in order, that have kept elements only.
func checkRestriction(t *testing.T, i int, d api.Domain, axis int, keep []bool) {
	t.Helper()
	var kept []api.Value
	for k, v := range d.Axes[axis] {
		if keep[k] {
			kept = append(kept, v)
		}
	}
	axes := slices.Clone(d.Axes)
	axes[axis] = kept
	r, e := domain.Restrict(d, axis, keep)
	if e != api.OK || !sameDomain(r, of(axes...)) {
		t.Fatalf("case %d, axis %d, %v: %v, %d", i, axis, keep, r, e)
	}
	all := product(d.Axes)
	at := 0
	for _, tuple := range product(r.Axes) {
		for at < len(all) && !sameTuple(all[at], tuple) {
			at++
		}
		if at == len(all) {
			t.Fatalf("case %d, axis %d, %v: %v is in the wrong place", i, axis, keep, tuple)
		}
		at++
	}
}
