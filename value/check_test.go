package value

import (
	"math"
	"strings"
	"testing"

	"synthesis/api"
)

func list(t int, items ...api.Value) api.Value { return api.Value{Type: t, Items: items} }

func times(n int, v api.Value) []api.Value {
	var items []api.Value
	for range n {
		items = append(items, v)
	}
	return items
}

type checkCase struct {
	name string
	v    api.Value
	want api.Errno
}

func runCheckCases(t *testing.T, cases []checkCase) {
	t.Helper()
	for _, x := range cases {
		if e := Check(x.v); e != x.want {
			t.Errorf("%s: Check = %d, not %d", x.name, e, x.want)
		}
	}
}

// P1.1: the type, and the fields that it does not use.
func TestCheckTypeAndForm(t *testing.T) {
	runCheckCases(t, []checkCase{
		{"zero value", api.Value{}, api.ErrType},
		{"type -1", api.Value{Type: -1}, api.ErrType},
		{"type 9", api.Value{Type: 9}, api.ErrType},
		{"least type", api.Value{Type: math.MinInt}, api.ErrType},
		{"no type, all fields", api.Value{Type: 9, Num: 1, Text: "a", Items: times(1, OfInt(1))}, api.ErrType},
		{"empty items are zero", api.Value{Type: api.Int, Items: []api.Value{}}, api.OK},
	})
	for typ := api.Bool; typ <= api.Pattern; typ++ {
		usesNum := typ == api.Bool || typ == api.Int || typ == api.Bits
		usesText := typ == api.Text || typ == api.Pattern
		least, _ := Default(typ)
		withNum, withText, withItems := least, least, least
		withNum.Num = 1
		withText.Text = "a"
		withItems.Items = []api.Value{{}}
		if e := Check(withNum); (e == api.ErrForm) == usesNum {
			t.Errorf("type %d with Num: %d", typ, e)
		}
		if e := Check(withText); (e == api.ErrForm) == usesText {
			t.Errorf("type %d with Text: %d", typ, e)
		}
		if e := Check(withItems); (e == api.ErrForm) == !(usesNum || usesText) {
			t.Errorf("type %d with Items: %d", typ, e)
		}
	}
	runCheckCases(t, []checkCase{
		{"form before range of Num", api.Value{Type: api.Bool, Num: 7, Text: "a"}, api.ErrForm},
		{"form before size of Text", api.Value{Type: api.Pattern, Num: 1}, api.ErrForm},
		{"form before size of Items", api.Value{Type: api.Ints, Num: 1, Items: times(17, OfInt(0))}, api.ErrForm},
		{"form before rows", api.Value{Type: api.Table, Text: "a", Items: times(9, OfInt(0))}, api.ErrForm},
	})
}

// P1.1, item 1: the ranges of Num.
func TestCheckNumbers(t *testing.T) {
	runCheckCases(t, []checkCase{
		{"false", OfBool(false), api.OK},
		{"true", OfBool(true), api.OK},
		{"Bool 2", api.Value{Type: api.Bool, Num: 2}, api.ErrRange},
		{"Bool -1", api.Value{Type: api.Bool, Num: -1}, api.ErrRange},
		{"Int 1000000", OfInt(1000000), api.OK},
		{"Int 1000001", OfInt(1000001), api.ErrRange},
		{"Int -1000000", OfInt(-1000000), api.OK},
		{"Int -1000001", OfInt(-1000001), api.ErrRange},
		{"least Int", OfInt(math.MinInt64), api.ErrRange},
		{"greatest Int", OfInt(math.MaxInt64), api.ErrRange},
		{"Bits 0", OfBits(0), api.OK},
		{"Bits 255", OfBits(255), api.OK},
		{"Bits 256", OfBits(256), api.ErrRange},
		{"Bits -1", OfBits(-1), api.ErrRange},
	})
}

// P1.1, item 2: the sizes and bytes of texts.
func TestCheckTexts(t *testing.T) {
	runCheckCases(t, []checkCase{
		{"empty", OfText(""), api.OK},
		{"64 bytes", OfText(strings.Repeat("a", 64)), api.OK},
		{"65 bytes", OfText(strings.Repeat("a", 65)), api.ErrSize},
		{"size before range", OfText(strings.Repeat("\n", 65)), api.ErrSize},
		{"first and last byte", OfText(" ~"), api.OK},
		{"byte 31", OfText("a\x1f"), api.ErrRange},
		{"byte 127", OfText("\x7fa"), api.ErrRange},
		{"byte 0", OfText("\x00"), api.ErrRange},
		{"byte 255", OfText("a\xffa"), api.ErrRange},
		{"letter of two bytes", OfText("\u00e9"), api.ErrRange},
		{"empty pattern", OfPattern(""), api.ErrSize},
		{"pattern of 1 byte", OfPattern("a"), api.OK},
		{"pattern that is no regular expression", OfPattern("(("), api.OK},
		{"pattern of 40 bytes", OfPattern(strings.Repeat("~", 40)), api.OK},
		{"pattern of 41 bytes", OfPattern(strings.Repeat("a", 41)), api.ErrSize},
		{"pattern size before range", OfPattern(strings.Repeat("\n", 41)), api.ErrSize},
		{"pattern with byte 10", OfPattern("a\n"), api.ErrRange},
	})
}

// P1.1, item 3: the elements of lists.
func TestCheckLists(t *testing.T) {
	good, bad := OfInt(1), OfInt(1000001)
	runCheckCases(t, []checkCase{
		{"no integers", list(api.Ints), api.OK},
		{"16 integers", list(api.Ints, times(16, good)...), api.OK},
		{"17 integers", list(api.Ints, times(17, good)...), api.ErrSize},
		{"size before elements", list(api.Ints, times(17, OfText("a"))...), api.ErrSize},
		{"text in Ints", list(api.Ints, good, OfText("a")), api.ErrType},
		{"bits in Ints", list(api.Ints, OfBits(1)), api.ErrType},
		{"no type in Ints", list(api.Ints, api.Value{}), api.ErrType},
		{"range before type of a later one", list(api.Ints, bad, OfText("a")), api.ErrRange},
		{"type before range of a later one", list(api.Ints, OfText("a"), bad), api.ErrType},
		{"type before form of the same one", list(api.Ints, api.Value{Type: api.Text, Num: 1}), api.ErrType},
		{"form of an element", list(api.Ints, api.Value{Type: api.Int, Text: "a"}), api.ErrForm},
		{"element with items", list(api.Ints, list(api.Int, good)), api.ErrForm},
		{"no texts", list(api.Texts), api.OK},
		{"16 texts", list(api.Texts, times(16, OfText(""))...), api.OK},
		{"17 texts", list(api.Texts, times(17, OfText(""))...), api.ErrSize},
		{"integer in Texts", list(api.Texts, OfText("a"), good), api.ErrType},
		{"pattern in Texts", list(api.Texts, OfPattern("a")), api.ErrType},
		{"Texts in Texts", list(api.Texts, list(api.Texts)), api.ErrType},
		{"long text", OfTexts([]string{"", strings.Repeat("a", 65)}), api.ErrSize},
		{"bad byte", OfTexts([]string{"a", "\x7f"}), api.ErrRange},
	})
}

// P1.1, item 4: the rows of tables.
func TestCheckTables(t *testing.T) {
	row := func(cells int) api.Value { return list(api.Texts, times(cells, OfText("a"))...) }
	bad := OfTexts([]string{"\n"})
	marked := api.Value{Type: api.Texts, Num: 1, Items: row(1).Items}
	wide := api.Value{Type: api.Texts, Num: 1, Items: row(9).Items}
	runCheckCases(t, []checkCase{
		{"no rows", list(api.Table), api.OK},
		{"8 rows of 8 cells", list(api.Table, times(8, row(8))...), api.OK},
		{"9 rows", list(api.Table, times(9, row(1))...), api.ErrSize},
		{"size before rows", list(api.Table, times(9, OfInt(1))...), api.ErrSize},
		{"Ints as row", list(api.Table, list(api.Ints)), api.ErrType},
		{"Text as row", list(api.Table, row(1), OfText("a")), api.ErrType},
		{"Table as row", list(api.Table, list(api.Table, row(1))), api.ErrType},
		{"type before number of cells", list(api.Table, row(1), list(api.Ints, times(2, OfInt(1))...)), api.ErrType},
		{"no cells", list(api.Table, row(0)), api.ErrSize},
		{"no cells twice", list(api.Table, row(0), row(0)), api.ErrSize},
		{"9 cells", list(api.Table, row(9)), api.ErrSize},
		{"one cell more", list(api.Table, row(1), row(2)), api.ErrSize},
		{"one cell less", list(api.Table, row(2), row(2), row(1)), api.ErrSize},
		{"number of cells before form", list(api.Table, wide), api.ErrSize},
		{"form of a row", list(api.Table, row(1), marked), api.ErrForm},
		{"cell with a bad byte", list(api.Table, row(1), bad), api.ErrRange},
		{"bad cell before the next row", list(api.Table, bad, row(2)), api.ErrRange},
		{"number of cells before a bad cell", list(api.Table, row(2), bad), api.ErrSize},
		{"integer as cell", list(api.Table, list(api.Texts, OfInt(1))), api.ErrType},
		{"long cell", OfTable([][]string{{"a", strings.Repeat("a", 65)}}), api.ErrSize},
	})
}
