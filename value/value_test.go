package value

import (
	"math"
	"strings"
	"testing"

	"synthesis/api"
)

// samples has values of all types, in ascending order, and some that are not valid.
func samples() []api.Value {
	return []api.Value{
		{Type: math.MinInt, Num: math.MaxInt64},
		{},
		OfBool(false),
		OfBool(true),
		OfInt(math.MinInt64),
		OfInt(-1000000),
		OfInt(-1),
		OfInt(0),
		{Type: api.Int, Text: "a"},
		OfInt(1),
		OfInt(math.MaxInt64),
		OfText(""),
		OfText("B"),
		OfText("a"),
		OfText("a\x00"),
		OfText("ab"),
		OfText("b"),
		OfText("\xff"),
		{Type: api.Text, Num: 1},
		OfBits(0),
		OfBits(255),
		OfInts(nil),
		OfInts([]int64{-1}),
		OfInts([]int64{1}),
		OfInts([]int64{1, 2}),
		OfInts([]int64{1, 2, 0}),
		OfInts([]int64{2}),
		{Type: api.Ints, Items: []api.Value{OfText("")}},
		OfTexts(nil),
		OfTexts([]string{""}),
		OfTexts([]string{"", ""}),
		OfTexts([]string{"a"}),
		OfTable(nil),
		OfTable([][]string{{}}),
		OfTable([][]string{{"a"}}),
		OfTable([][]string{{"a"}, {"b"}}),
		OfTable([][]string{{"a", "b"}}),
		OfTable([][]string{{"b"}}),
		OfPattern(""),
		OfPattern(" "),
		OfPattern("a*"),
		{Type: math.MaxInt},
	}
}

// nest returns a value with so many levels of items above v.
func nest(levels int, v api.Value) api.Value {
	for range levels {
		v = api.Value{Type: api.Table, Items: []api.Value{v}}
	}
	return v
}

// P1.2 and P1.8: the samples are in ascending order, which makes Compare a total order on them.
func TestCompare(t *testing.T) {
	for i, a := range samples() {
		for k, b := range samples() {
			want := 0
			if i < k {
				want = -1
			} else if i > k {
				want = 1
			}
			if c := Compare(a, b); c != want {
				t.Errorf("Compare(%v, %v) = %d, not %d", a, b, c, want)
			}
			if Equal(a, b) != (want == 0) {
				t.Errorf("Equal(%v, %v) = %t", a, b, want != 0)
			}
		}
	}
}

// P1.2: the fields count in the order Type, Num, Text, Items.
func TestCompareFieldOrder(t *testing.T) {
	item := []api.Value{OfInt(9)}
	ascending := []api.Value{
		{Type: 1, Num: 1, Text: "a"},
		{Type: 1, Num: 1, Text: "a", Items: item},
		{Type: 1, Num: 1, Text: "b"},
		{Type: 1, Num: 2},
		{Type: 2, Num: -5, Text: "a", Items: item},
	}
	for i := range len(ascending) - 1 {
		if c := Compare(ascending[i], ascending[i+1]); c != -1 {
			t.Errorf("Compare of %d and the next one = %d", i, c)
		}
	}
}

// P1.2: nil and empty lists are equal, on every level.
func TestCompareEmptyLists(t *testing.T) {
	empty := api.Value{Type: api.Ints, Items: []api.Value{}}
	if Compare(OfInts(nil), empty) != 0 || !Equal(empty, api.Value{Type: api.Ints}) {
		t.Error("an empty list differs from nil")
	}
	if !Equal(nest(2, empty), nest(2, api.Value{Type: api.Ints})) {
		t.Error("a nested empty list differs from nil")
	}
}

func TestDeepValues(t *testing.T) {
	const levels = 1 << 16
	low, high := nest(levels, OfInt(1)), nest(levels, OfInt(2))
	if Compare(low, high) != -1 || Compare(high, low) != 1 || !Equal(low, low) {
		t.Error("deep values are not compared")
	}
	if n := Size(low); n != levels+1 {
		t.Error("Size of a deep value", n)
	}
	if e := Check(low); e != api.ErrType {
		t.Error("Check of a deep value", e)
	}
}

// P1.3
func TestSize(t *testing.T) {
	for _, x := range []struct {
		v    api.Value
		want int
	}{
		{api.Value{}, 1},
		{OfInt(5), 1},
		{OfText("abc"), 1},
		{OfInts(nil), 1},
		{OfInts([]int64{1, 2, 3}), 4},
		{OfTable([][]string{{"a", "b"}, {"c", "d"}}), 7},
		{OfTable([][]string{{"a", "b"}, {}, {"c"}}), 7},
		{api.Value{Type: api.Int, Items: []api.Value{{}, OfInts([]int64{1})}}, 4},
	} {
		if n := Size(x.v); n != x.want {
			t.Errorf("Size(%v) = %d, not %d", x.v, n, x.want)
		}
	}
}

// P1.4
func TestTypeNames(t *testing.T) {
	names := strings.Fields("bool int text bits ints texts table pattern")
	for i, name := range names {
		if s := TypeName(i + 1); s != name {
			t.Errorf("TypeName(%d) = %q", i+1, s)
		}
		if n, ok := ParseType(name); n != i+1 || !ok {
			t.Errorf("ParseType(%q) = %d, %t", name, n, ok)
		}
	}
	for _, n := range []int{0, 9, -1, math.MinInt, math.MaxInt} {
		if s := TypeName(n); s != "" {
			t.Errorf("TypeName(%d) = %q", n, s)
		}
	}
	for _, s := range []string{"", "Int", "int ", "in", "ints,", "text\x00"} {
		if n, ok := ParseType(s); n != 0 || ok {
			t.Errorf("ParseType(%q) = %d, %t", s, n, ok)
		}
	}
}

// P1.5
func TestDefault(t *testing.T) {
	want := []api.Value{
		{Type: api.Bool},
		{Type: api.Int, Num: -1000000},
		{Type: api.Text},
		{Type: api.Bits},
		{Type: api.Ints},
		{Type: api.Texts},
		{Type: api.Table},
		{Type: api.Pattern, Text: " "},
	}
	for i, w := range want {
		if v, e := Default(i + 1); !Equal(v, w) || e != api.OK || Check(v) != api.OK {
			t.Errorf("Default(%d) = %v, %d", i+1, v, e)
		}
	}
	for _, n := range []int{0, 9, -1, math.MinInt, math.MaxInt} {
		if v, e := Default(n); !Equal(v, api.Value{}) || e != api.ErrType {
			t.Errorf("Default(%d) = %v, %d", n, v, e)
		}
	}
}

// P1.8: no other valid value of its type comes before the default value.
func TestDefaultIsLeast(t *testing.T) {
	for _, v := range samples() {
		if Check(v) != api.OK {
			continue
		}
		least, _ := Default(v.Type)
		if Compare(v, least) < 0 {
			t.Errorf("%v comes before the default value", v)
		}
	}
}
