package literal

import (
	"strings"
	"testing"

	"synthesis/api"
	"synthesis/value"
)

type literalCase struct {
	v    api.Value
	want string
}

// literals has values with their literals, of all types and at all limits.
func literals() []literalCase {
	a64, a40 := strings.Repeat("a", 64), strings.Repeat("a", 40)
	quotes, slashes := strings.Repeat("\"", 64), strings.Repeat("\\", 64)
	zeros := strings.Repeat("0, ", 15) + "0"
	empties := strings.Repeat("\"\", ", 15) + "\"\""
	wide := strings.Repeat("\"x\", ", 7) + "\"x\""
	row := strings.Fields("x x x x x x x x")
	return []literalCase{
		{value.OfBool(false), "false"},
		{value.OfBool(true), "true"},
		{value.OfInt(0), "0"},
		{value.OfInt(12), "12"},
		{value.OfInt(-5), "-5"},
		{value.OfInt(-10), "-10"},
		{value.OfInt(999999), "999999"},
		{value.OfInt(1000000), "1000000"},
		{value.OfInt(-1000000), "-1000000"},
		{value.OfBits(0), "0x00"},
		{value.OfBits(15), "0x0f"},
		{value.OfBits(16), "0x10"},
		{value.OfBits(255), "0xff"},
		{value.OfText(""), `""`},
		{value.OfText("a"), `"a"`},
		{value.OfText(" ~"), `" ~"`},
		{value.OfText("a\"b\\"), `"a\"b\\"`},
		{value.OfText("\\x41"), `"\\x41"`},
		{value.OfText(a64), "\"" + a64 + "\""},
		{value.OfText(quotes), "\"" + strings.Repeat("\\\"", 64) + "\""},
		{value.OfText(slashes), "\"" + strings.Repeat("\\\\", 64) + "\""},
		{value.OfPattern("[a-z]*"), `r"[a-z]*"`},
		{value.OfPattern(" "), `r" "`},
		{value.OfPattern("\\"), `r"\\"`},
		{value.OfPattern(a40), "r\"" + a40 + "\""},
		{value.OfPattern(quotes[:40]), "r\"" + strings.Repeat("\\\"", 40) + "\""},
		{value.OfInts(nil), "[]"},
		{value.OfInts([]int64{1, -2}), "[1, -2]"},
		{value.OfInts(make([]int64, 16)), "[" + zeros + "]"},
		{value.OfTexts(nil), "{}"},
		{value.OfTexts([]string{"a", ""}), `{"a", ""}`},
		{value.OfTexts(make([]string, 16)), "{" + empties + "}"},
		{value.OfTable(nil), "<>"},
		{value.OfTable([][]string{{""}}), `<{""}>`},
		{value.OfTable([][]string{{"a", "b"}, {"c", "d"}}), `<{"a", "b"}, {"c", "d"}>`},
		{value.OfTable([][]string{row, row, row, row, row, row, row, row}), "<" + strings.Repeat("{"+wide+"}, ", 7) + "{" + wide + "}>"},
	}
}

// invalid has values that are not valid, with their errors.
func invalid() map[api.Errno]api.Value {
	return map[api.Errno]api.Value{
		api.ErrType:  {},
		api.ErrForm:  {Type: api.Int, Text: "a"},
		api.ErrRange: value.OfInt(1000001),
		api.ErrSize:  value.OfPattern(""),
	}
}

// P2.1
func TestPrint(t *testing.T) {
	for _, x := range literals() {
		if s, e := Print(x.v); s != x.want || e != api.OK {
			t.Errorf("Print(%v) = %s, %d, not %s", x.v, s, e, x.want)
		}
	}
	for want, v := range invalid() {
		if s, e := Print(v); s != "" || e != want {
			t.Errorf("Print(%v) = %s, %d, not %d", v, s, e, want)
		}
	}
	if s, e := Print(value.OfTable([][]string{{"a"}, {}})); s != "" || e != api.ErrSize {
		t.Errorf("Print of a bad table = %s, %d", s, e)
	}
	if s, e := Print(value.OfTexts([]string{"a", "\n"})); s != "" || e != api.ErrRange {
		t.Errorf("Print of a bad text = %s, %d", s, e)
	}
}

// P2.3
func TestPrintAll(t *testing.T) {
	for _, x := range []struct {
		l    []api.Value
		want string
	}{
		{nil, ""},
		{[]api.Value{}, ""},
		{[]api.Value{value.OfInt(1)}, "1"},
		{[]api.Value{value.OfInt(1), value.OfText("a")}, `1, "a"`},
		{[]api.Value{value.OfInts(nil), value.OfBool(true), value.OfTable(nil)}, "[], true, <>"},
	} {
		if s, e := PrintAll(x.l); s != x.want || e != api.OK {
			t.Errorf("PrintAll(%v) = %s, %d", x.l, s, e)
		}
	}
	for want, first := range invalid() {
		for other, second := range invalid() {
			l := []api.Value{value.OfInt(1), first, second}
			if s, e := PrintAll(l); s != "" || e != want {
				t.Errorf("PrintAll with errors %d and %d = %s, %d", want, other, s, e)
			}
		}
	}
}

// P2.5
func TestQuote(t *testing.T) {
	for _, x := range []struct{ s, want string }{
		{"", `""`},
		{"a", `"a"`},
		{"\n\"", `"\x0a\""`},
		{"\\", `"\\"`},
		{" ~", `" ~"`},
		{"\x00\x1f\x7f\x80\xff", `"\x00\x1f\x7f\x80\xff"`},
		{"\u00e9", `"\xc3\xa9"`},
		{"\ufffd", `"\xef\xbf\xbd"`},
		{"\xef\xbf", `"\xef\xbf"`},
		{"\xf0\x9f\x98\x80a", `"\xf0\x9f\x98\x80a"`},
		{"a\xffb", `"a\xffb"`},
		{strings.Repeat("a", 1000), "\"" + strings.Repeat("a", 1000) + "\""},
	} {
		if s := Quote(x.s); s != x.want {
			t.Errorf("Quote(%q) = %s, not %s", x.s, s, x.want)
		}
	}
}

// P2.5: every byte alone, by the definition of the quoted form.
func TestQuoteBytes(t *testing.T) {
	for c := range 256 {
		digits := "0123456789abcdef"
		want := "\\x" + digits[c/16:c/16+1] + digits[c%16:c%16+1]
		if c >= 32 && c <= 126 {
			want = string(rune(c))
		}
		if c == '"' || c == '\\' {
			want = "\\" + want
		}
		if s := Quote(string([]byte{byte(c)})); s != "\""+want+"\"" {
			t.Errorf("Quote of the byte %d = %s", c, s)
		}
	}
}
