package value

import (
	"math"
	"reflect"
	"slices"
	"strings"
	"testing"

	"synthesis/api"
)

// P1.6
func TestConstructors(t *testing.T) {
	texts := func(l ...string) api.Value {
		v := api.Value{Type: api.Texts}
		for _, s := range l {
			v.Items = append(v.Items, api.Value{Type: api.Text, Text: s})
		}
		return v
	}
	for _, x := range []struct{ got, want api.Value }{
		{OfBool(false), api.Value{Type: api.Bool}},
		{OfBool(true), api.Value{Type: api.Bool, Num: 1}},
		{OfInt(-7), api.Value{Type: api.Int, Num: -7}},
		{OfInt(math.MinInt64), api.Value{Type: api.Int, Num: math.MinInt64}},
		{OfBits(1000), api.Value{Type: api.Bits, Num: 1000}},
		{OfText("\x00a"), api.Value{Type: api.Text, Text: "\x00a"}},
		{OfPattern(""), api.Value{Type: api.Pattern}},
		{OfPattern("a|b"), api.Value{Type: api.Pattern, Text: "a|b"}},
		{OfInts([]int64{1, -2}), api.Value{Type: api.Ints, Items: []api.Value{{Type: api.Int, Num: 1}, {Type: api.Int, Num: -2}}}},
		{OfTexts([]string{"a", ""}), texts("a", "")},
		{OfTable([][]string{{"a", "b"}, {"c"}}), api.Value{Type: api.Table, Items: []api.Value{texts("a", "b"), texts("c")}}},
	} {
		if !reflect.DeepEqual(x.got, x.want) {
			t.Errorf("%v, not %v", x.got, x.want)
		}
	}
	for _, v := range []api.Value{OfInts(nil), OfInts([]int64{}), OfTexts(nil), OfTable(nil)} {
		if len(v.Items) != 0 || Check(v) != api.OK {
			t.Errorf("empty list: %v", v)
		}
	}
	if v := OfInts(make([]int64, 100)); len(v.Items) != 100 {
		t.Error("a list that is too long has", len(v.Items))
	}
}

// P1.7 and P1.8
func TestReadBack(t *testing.T) {
	for _, l := range [][]int64{nil, {0}, {3, -1, 1000000}, make([]int64, 16)} {
		if got, ok := Ints(OfInts(l)); !ok || !slices.Equal(got, l) {
			t.Errorf("Ints of %v = %v, %t", l, got, ok)
		}
	}
	for _, l := range [][]string{nil, {""}, {"a", "\"", "~"}, make([]string, 16)} {
		if got, ok := Texts(OfTexts(l)); !ok || !slices.Equal(got, l) {
			t.Errorf("Texts of %q = %q, %t", l, got, ok)
		}
	}
	for _, rows := range [][][]string{nil, {{"a"}}, {{"a", "b"}, {"", "d"}}} {
		if got, ok := Rows(OfTable(rows)); !ok || !slices.EqualFunc(got, rows, slices.Equal) {
			t.Errorf("Rows of %q = %q, %t", rows, got, ok)
		}
	}
	for _, v := range samples() {
		if l, ok := Ints(v); ok && !Equal(OfInts(l), v) {
			t.Errorf("OfInts of Ints of %v", v)
		}
		if l, ok := Texts(v); ok && !Equal(OfTexts(l), v) {
			t.Errorf("OfTexts of Texts of %v", v)
		}
		if l, ok := Rows(v); ok && !Equal(OfTable(l), v) {
			t.Errorf("OfTable of Rows of %v", v)
		}
	}
}

// P1.7: other values, and values that are not valid.
func TestReadOthers(t *testing.T) {
	others := []api.Value{
		{},
		OfBool(true),
		OfInt(1),
		OfText("a"),
		OfInts([]int64{1, 1000001}),
		OfInts(make([]int64, 17)),
		OfTexts([]string{"a", "\n"}),
		OfTable([][]string{{"a"}, {"a", "b"}}),
		OfTable([][]string{{strings.Repeat("a", 65)}}),
		{Type: api.Ints, Num: 1},
		{Type: api.Texts, Text: "a"},
		{Type: api.Table, Num: 1},
		{Type: 9, Items: OfInts([]int64{1}).Items},
		OfPattern("a"),
	}
	for _, v := range append(others, OfTexts([]string{"a"}), OfTable(nil)) {
		if l, ok := Ints(v); ok || len(l) != 0 {
			t.Errorf("Ints(%v) = %v, %t", v, l, ok)
		}
	}
	for _, v := range append(others, OfInts([]int64{1}), OfTable(nil)) {
		if l, ok := Texts(v); ok || len(l) != 0 {
			t.Errorf("Texts(%v) = %v, %t", v, l, ok)
		}
	}
	for _, v := range append(others, OfInts(nil), OfTexts([]string{"a"})) {
		if l, ok := Rows(v); ok || len(l) != 0 {
			t.Errorf("Rows(%v) = %v, %t", v, l, ok)
		}
	}
}

// Rule 5: results share no memory with arguments or with each other.
func TestSharedMemory(t *testing.T) {
	rows := [][]string{{"a", "b"}, {"c", "d"}}
	table := OfTable(rows)
	rows[0][0] = "z"
	rows[1] = nil
	if !Equal(table, OfTable([][]string{{"a", "b"}, {"c", "d"}})) {
		t.Error("OfTable keeps its argument")
	}
	got, _ := Rows(table)
	got[0][1] = "z"
	_ = append(got[0], "z")
	if got[1][0] != "c" || table.Items[0].Items[1].Text != "b" {
		t.Error("the rows share memory")
	}
	_ = append(table.Items[0].Items, OfText("z"))
	if table.Items[1].Items[0].Text != "c" {
		t.Error("the rows of a table share memory")
	}
	l := []int64{1, 2}
	v := OfInts(l)
	l[0] = 9
	numbers, _ := Ints(v)
	numbers[1] = 9
	if v.Items[0].Num != 1 || v.Items[1].Num != 2 {
		t.Error("a list of integers shares memory")
	}
}
