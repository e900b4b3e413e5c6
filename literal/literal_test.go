package literal

import (
	"slices"
	"strings"
	"testing"

	"synthesis/api"
	"synthesis/value"
)

type faultCase struct {
	s    string
	want int
}

// P2.2
func TestParse(t *testing.T) {
	for _, x := range literals() {
		if v, n, e := Parse(x.want); !value.Equal(v, x.v) || n != 0 || e != api.OK {
			t.Errorf("Parse(%s) = %v, %d, %d", x.want, v, n, e)
		}
	}
}

func runFaultCases(t *testing.T, cases []faultCase) {
	t.Helper()
	for _, x := range cases {
		if v, n, e := Parse(x.s); !value.Equal(v, api.Value{}) || n != x.want || e != api.ErrSyntax {
			t.Errorf("Parse(%q) = %v, %d, %d, not %d", x.s, v, n, e, x.want)
		}
	}
}

// P2.2: the faults of literals of single values.
func TestSimpleFaults(t *testing.T) {
	a64, a40 := strings.Repeat("a", 64), strings.Repeat("a", 40)
	runFaultCases(t, []faultCase{
		{"", 0}, {" ", 0}, {"\x00", 0}, {"x", 0}, {"+1", 0}, {".", 0}, {"\u00e9", 0}, {"\xff", 0}, {"}", 0}, {",", 0},
		{"t", 1}, {"tru", 3}, {"truE", 3}, {"truee", 4}, {"true ", 4}, {"True", 0}, {"f", 1}, {"fAlse", 1}, {"falses", 5}, {"false\x00", 5},
		{"-", 1}, {"-0", 1}, {"--1", 1}, {"-a", 1}, {"- 1", 1}, {"01", 1}, {"00", 1}, {"1 ", 1}, {" 1", 0}, {"1a", 1}, {"1.0", 1}, {"1\x00", 1},
		{"1000001", 6}, {"1000010", 6}, {"2000000", 6}, {"10000000", 7}, {"9999999", 6}, {"-1000001", 7}, {"-10000000", 8}, {"1_0", 1},
		{"99999999999999999999999999", 6}, {"18446744073709551617", 6},
		{"0x", 2}, {"0x0", 3}, {"0x0F", 3}, {"0xF0", 2}, {"0X00", 1}, {"0xg0", 2}, {"0x000", 4}, {"0x0 ", 3}, {"00x0", 1}, {"1x00", 1}, {"-0x00", 1},
		{`"`, 1}, {`"a`, 2}, {`"a"b`, 3}, {`""a`, 2}, {`"\`, 2}, {`"\a"`, 2}, {`"\x"`, 2}, {`"\x0a"`, 2}, {`"\"`, 3},
		{"\"a\n\"", 2}, {"\"\x7f\"", 1}, {"\"\x1f\"", 1}, {"\"\x00\"", 1}, {"\"a\u00e9\"", 2}, {"\"a\xff\"", 2}, {"\"\ufffd\"", 1}, {`'a'`, 0},
		{"\"" + a64 + "a\"", 65}, {"\"" + a64 + "\\", 65}, {"\"" + a64, 65}, {"\"" + a64[1:] + "\\", 65}, {"\"" + strings.Repeat("\\\"", 65) + "\"", 129},
		{"r", 1}, {`r"`, 2}, {`r""`, 2}, {`r"a`, 3}, {`ra`, 1}, {`R"a"`, 0}, {`r "a"`, 1}, {`r"\`, 3}, {`r"\x`, 3}, {`r"\"`, 4}, {`r"a" `, 4},
		{"r\"" + a40 + "a\"", 42}, {"r\"" + a40 + "\\\\\"", 42}, {"r\"" + a40, 42}, {"r\"\n\"", 2},
	})
}

// P2.2: the faults of literals of lists and tables.
func TestNestedFaults(t *testing.T) {
	zeros := strings.Repeat("0, ", 15) + "0"
	empties := strings.Repeat("\"\", ", 15) + "\"\""
	wide := strings.Repeat("\"\", ", 7) + "\"\""
	rows := strings.Repeat("{\"\"}, ", 7) + "{\"\"}"
	runFaultCases(t, []faultCase{
		{"[", 1}, {"[ ]", 1}, {"[1,2]", 3}, {"[1, 2", 5}, {"[1, ]", 4}, {"[1 , 2]", 2}, {"[1,  2]", 4}, {"[1, 2,]", 6}, {"[1]]", 3}, {"[] ", 2}, {"[,", 1},
		{"[01]", 2}, {"[-]", 2}, {"[-0]", 2}, {"[1000001]", 7}, {"[0x00]", 2}, {"[true]", 1}, {"[\"a\"]", 1}, {"[[]]", 1}, {"[1}", 2}, {"[r\"a\"]", 1},
		{"[" + zeros + ", 0]", 47}, {"[" + zeros, 47}, {"[" + zeros + ",", 47},
		{"{", 1}, {"{ }", 1}, {"{a}", 1}, {"{1}", 1}, {"{\"a\"", 4}, {"{\"a\",\"b\"}", 5}, {"{\"a\", }", 6}, {"{\"a\", 1}", 6}, {"{\"a\"]", 4}, {"{}{", 2}, {"{{}}", 1},
		{"{" + empties + ", \"\"}", 63}, {"{\"" + strings.Repeat("b", 65), 66}, {"{r\"a\"}", 1}, {"{\"\n", 2},
		{"<", 1}, {"< >", 1}, {"<{", 2}, {"<{}", 2}, {"<{}>", 2}, {"<1>", 1}, {"<\"a\">", 1}, {"<[]>", 1}, {"<<>>", 1}, {"<{\"a\"}", 6}, {"<{\"a\"},{\"a\"}>", 7}, {"<{\"a\"}, >", 8},
		{"<{\"a\"}, {\"b\", ", 12}, {"<{\"a\"}, {}>", 9}, {"<{\"a\", \"b\"}, {\"c\"}>", 17}, {"<{\"a\", \"b\"}, {\"c\", \"d\", \"e\"}>", 22},
		{"<{\"a\", \"b\"}, {\"c\", \"d\"}, {\"e\"}>", 29}, {"<{\"a\"}}", 6}, {"<{\"a\"}>>", 7}, {"<> ", 2}, {"<{\"a\", }", 7}, {"<{\"a\" }", 5}, {"<{\"a\"}, <", 8},
		{"<{" + wide + ", \"\"}>", 32}, {"<{" + wide + ",", 32}, {"<" + rows + ", {\"\"}>", 47}, {"<" + rows + ",", 47}, {"<" + rows, 47},
	})
}

// P2.4
func TestParseAll(t *testing.T) {
	for _, x := range []struct {
		s    string
		want []api.Value
	}{
		{"", nil},
		{"1", []api.Value{value.OfInt(1)}},
		{`1, "a"`, []api.Value{value.OfInt(1), value.OfText("a")}},
		{"0, 0x00, 0", []api.Value{value.OfInt(0), value.OfBits(0), value.OfInt(0)}},
		{"[1, 2], <>, {}", []api.Value{value.OfInts([]int64{1, 2}), value.OfTable(nil), value.OfTexts(nil)}},
		{`", ", r", "`, []api.Value{value.OfText(", "), value.OfPattern(", ")}},
	} {
		if l, n, e := ParseAll(x.s); !slices.EqualFunc(l, x.want, value.Equal) || n != 0 || e != api.OK {
			t.Errorf("ParseAll(%s) = %v, %d, %d", x.s, l, n, e)
		}
	}
	// A tuple may have more values than a program has inputs.
	many := strings.Repeat("<{\"a\"}>, ", 5000) + "-7"
	l, n, e := ParseAll(many)
	if len(l) != 5001 || n != 0 || e != api.OK {
		t.Fatalf("ParseAll of 5001 values: %d, %d, %d", len(l), n, e)
	}
	if s, e := PrintAll(l); s != many || e != api.OK {
		t.Error("PrintAll does not write the 5001 values", e)
	}
}

func TestParseAllFaults(t *testing.T) {
	for _, x := range []faultCase{
		{" ", 0}, {",", 0}, {", 1", 0}, {"1,", 2}, {"1, ", 3}, {"1,2", 2}, {"1 ", 1}, {"1 , 2", 1}, {"1,  2", 3}, {"1, , 2", 3}, {"1, 2,", 5}, {"1, 2, ", 6},
		{"true, fals", 10}, {"true, falsy", 10}, {"01", 1}, {"1, 01", 4}, {"1, -0", 4}, {"1000001, 1", 6}, {"1, 1000001", 9}, {"0x0, 1", 3}, {"0x00,", 5},
		{"[], [1,2]", 7}, {"<{\"a\"}, {\"b\"}, 1", 15}, {"<{\"a\"}>, <{\"a\", \"b\"}, {\"c\"}>", 26}, {"\"a, 1", 5}, {"1\x00", 1}, {"1, \xff", 3}, {"1\n", 1}, {"r\"a\", r\"\"", 8},
	} {
		if l, n, e := ParseAll(x.s); len(l) != 0 || n != x.want || e != api.ErrSyntax {
			t.Errorf("ParseAll(%q) = %v, %d, %d, not %d", x.s, l, n, e, x.want)
		}
	}
}

// P2.5
func TestUnquote(t *testing.T) {
	all := make([]byte, 0, 512)
	for c := range 256 {
		all = append(all, byte(c), byte(255-c))
	}
	for _, s := range []string{"", "a", "\"", "\\", "\\x41", "\n\"", "\u00e9\ufffd\xff", string(all), strings.Repeat("\x00\\a", 10000)} {
		if got, n, e := Unquote(Quote(s)); got != s || n != 0 || e != api.OK {
			t.Errorf("Unquote of Quote(%q) = %q, %d, %d", s, got, n, e)
		}
	}
	for _, x := range []faultCase{
		{"", 0}, {"a", 0}, {"'", 0}, {`"`, 1}, {`"a`, 2}, {`"a"a`, 3}, {`"""`, 2}, {`"" `, 2}, {`"\`, 2}, {`"\a"`, 2}, {`"\n"`, 2}, {`"\'"`, 2}, {`"\X0a"`, 2},
		{`"\x`, 3}, {`"\x"`, 3}, {`"\x0`, 4}, {`"\x0"`, 4}, {`"\x0a`, 5}, {`"\x0A"`, 4}, {`"\xA0"`, 3}, {`"\x41"`, 3}, {`"\x20"`, 3}, {`"\x22"`, 3}, {`"\x5c"`, 3}, {`"\x6f"`, 3},
		{`"\x7"`, 4}, {`"\x7e"`, 4}, {`"\x7F"`, 4}, {`"\x7f`, 5}, {`"\x7ff`, 6}, {`"\xfg"`, 4}, {`"\xg0"`, 3}, {`"\x 0"`, 3},
		{"\"\n\"", 1}, {"\"\x7f\"", 1}, {"\"\x1f\"", 1}, {"\"a\u00e9\"", 2}, {"\"a\xff\"", 2}, {"\"\\\xff\"", 2}, {"\"\\x\xff\"", 3}, {"\"\\x0\u00e9\"", 4}, {"\"\"\x00", 2}, {"\x00", 0}, {`r"a"`, 0},
	} {
		if s, n, e := Unquote(x.s); s != "" || n != x.want || e != api.ErrSyntax {
			t.Errorf("Unquote(%q) = %q, %d, %d, not %d", x.s, s, n, e, x.want)
		}
	}
}
