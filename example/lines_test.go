package example_test

import (
	"slices"
	"strings"
	"testing"

	"synthesis/api"
	"synthesis/example"
	"synthesis/literal"
	"synthesis/value"
)

type lineCase struct {
	x    api.Example
	line string
}

// lineCases returns examples with their lines.
func lineCases() []lineCase {
	n, s := value.OfInt, value.OfText
	return []lineCase{
		{of(n(5)), "-> 5\n"},
		{of(s("b"), s("a"), n(1)), "\"a\", 1 -> \"b\"\n"},
		{of(n(-1), n(-2)), "-2 -> -1\n"},
		{of(s("")), "-> \"\"\n"},
		// Arrows in the values.
		{of(s(" -> "), s(" -> "), s("-> ")), "\" -> \", \"-> \" -> \" -> \"\n"},
		{of(s("-> 1")), "-> \"-> 1\"\n"},
		{of(s("\" -> \"")), "-> \"\\\" -> \\\"\"\n"},
		{of(value.OfTexts([]string{" -> ", "1 -> 2"}), value.OfTexts([]string{"a\" -> "}), value.OfPattern(" -> ")), "{\"a\\\" -> \"}, r\" -> \" -> {\" -> \", \"1 -> 2\"}\n"},
		{of(value.OfBool(true), value.OfBool(false), value.OfBits(15), value.OfInts([]int64{1, -2}), value.OfInts(nil), value.OfTable(nil)), "false, 0x0f, [1, -2], [], <> -> true\n"},
		{of(value.OfTable([][]string{{"a", "b"}, {"c", "d"}}), value.OfTable([][]string{{"->"}})), "<{\"->\"}> -> <{\"a\", \"b\"}, {\"c\", \"d\"}>\n"},
		// No language has so many inputs.
		{of(n(0), n(1), n(2), n(3), n(4), n(5), n(6)), "1, 2, 3, 4, 5, 6 -> 0\n"},
	}
}

// P17.5
func TestLines(t *testing.T) {
	var list []api.Example
	var text string
	for _, x := range lineCases() {
		if s, e := example.Print([]api.Example{x.x}); s != x.line || e != api.OK {
			t.Errorf("Print is %q, %d, not %q", s, e, x.line)
		}
		list = append(list, x.x)
		text += x.line
		if s, e := example.Print(list); s != text || e != api.OK {
			t.Errorf("Print is %q, %d, not %q", s, e, text)
		}
		if back, n, e := example.Parse(text); !slices.EqualFunc(back, list, equal) || n != 0 || e != api.OK {
			t.Errorf("Parse of %q is %v, %d, %d", text, back, n, e)
		}
	}
	if s, e := example.Print(nil); s != "" || e != api.OK {
		t.Error(s, e)
	}
	if list, n, e := example.Parse(""); len(list) > 0 || n != 0 || e != api.OK {
		t.Error(list, n, e)
	}
}

// P17.5: the errors of Print.
func TestPrintErrors(t *testing.T) {
	n, tooGreat, noType, tooLong := value.OfInt(1), value.OfInt(api.MaxInt+1), api.Value{}, value.OfPattern("")
	most := repeated(number(1, 2), api.MaxExamples)
	for i, x := range []struct {
		list []api.Example
		want api.Errno
	}{
		{most, api.OK},
		{append(slices.Clone(most), number(1, 2)), api.ErrSize},
		{repeated(api.Example{}, api.MaxExamples+1), api.ErrSize},
		{[]api.Example{{}}, api.ErrType},
		{[]api.Example{of(n, tooGreat)}, api.ErrRange},
		{[]api.Example{of(noType, tooGreat)}, api.ErrRange},
		{[]api.Example{of(noType, n, tooLong, tooGreat)}, api.ErrSize},
		{[]api.Example{of(tooGreat, n), of(n, noType)}, api.ErrRange},
		{[]api.Example{number(1, 1), of(n, noType), of(n, tooGreat)}, api.ErrType},
		// Examples of different forms, and ones that contradict each other, have lines, too.
		{[]api.Example{number(1, 1), number(1, 2), of(n), of(n, n, n), of(value.OfText("a"))}, api.OK},
	} {
		if s, e := example.Print(x.list); e != x.want || (s == "") != (e != api.OK) {
			t.Errorf("case %d: %q, %d, not %d", i, s, e, x.want)
		}
	}
}

// P17.5: the errors of Parse, and the numbers of lines.
func TestParseErrors(t *testing.T) {
	line := "1 -> 2\n"
	most := strings.Repeat(line, api.MaxExamples)
	// With ten bytes more, this has as many as permitted.
	long := strings.Repeat("1, ", (api.MaxSource-10)/3)
	for _, x := range []struct {
		s  string
		at int
		e  api.Errno
	}{
		{line, 0, api.OK},
		{most, 0, api.OK},
		{most + "\n", 17, api.ErrSize},
		{most + "x", 17, api.ErrSize},
		{most + line, 17, api.ErrSize},
		{most + line + "x", 17, api.ErrSize},
		{strings.Repeat(line, 15) + "1 -> 2", 16, api.ErrSyntax},
		{strings.Repeat(line, 15) + "x\n" + line, 16, api.ErrSyntax},
		{strings.Repeat(line, 15) + "\n" + most, 16, api.ErrSyntax},
		{"\n", 1, api.ErrSyntax},
		{line + "\n", 2, api.ErrSyntax},
		{line + "\n" + line, 2, api.ErrSyntax},
		{"\n" + line, 1, api.ErrSyntax},
		{"1 -> 2", 1, api.ErrSyntax},
		{line + "1 -> 2", 2, api.ErrSyntax},
		{line + line + "1 -> 2\r\n", 3, api.ErrSyntax},
		{"-> 1\n1->2\n", 2, api.ErrSyntax},
		{" -> 1\n", 1, api.ErrSyntax},
		{"->1\n", 1, api.ErrSyntax},
		{"-> \n", 1, api.ErrSyntax},
		{"-> 1 \n", 1, api.ErrSyntax},
		{"-> 1, 2\n", 1, api.ErrSyntax},
		{"1-> 2\n", 1, api.ErrSyntax},
		{"1 ->2\n", 1, api.ErrSyntax},
		{"1  -> 2\n", 1, api.ErrSyntax},
		{"1 ->  2\n", 1, api.ErrSyntax},
		{"1 -> 2 -> 3\n", 1, api.ErrSyntax},
		{"-> 1 -> 2\n", 1, api.ErrSyntax},
		{"1,  -> 2\n", 1, api.ErrSyntax},
		{"1,2 -> 2\n", 1, api.ErrSyntax},
		{"1, -> 2\n", 1, api.ErrSyntax},
		{"1, 2\n", 1, api.ErrSyntax},
		{"\"a -> \"b\"\n", 1, api.ErrSyntax},
		{"01 -> 1\n", 1, api.ErrSyntax},
		{"1 -> 1000001\n", 1, api.ErrSyntax},
		{"1000001 -> 1\n", 1, api.ErrSyntax},
		{"r\"\" -> 1\n", 1, api.ErrSyntax},
		{"<{\"a\"}, {}> -> 1\n", 1, api.ErrSyntax},
		{"1 -> \"" + strings.Repeat("a", api.MaxText+1) + "\"\n", 1, api.ErrSyntax},
		{long + "1 -> 1234\n", 0, api.OK},
		{long + "1 -> 12345\n", 0, api.ErrSize},
		{strings.Repeat("x", api.MaxSource), 1, api.ErrSyntax},
		{strings.Repeat("x", api.MaxSource+1), 0, api.ErrSize},
		{most + strings.Repeat("x", api.MaxSource-len(most)), 17, api.ErrSize},
		{most + strings.Repeat("x", api.MaxSource-len(most)+1), 0, api.ErrSize},
	} {
		list, at, e := example.Parse(x.s)
		if at != x.at || e != x.e || (len(list) == 0) != (e != api.OK) {
			t.Errorf("Parse of %.60q is %d examples, %d, %d, not %d, %d", x.s, len(list), at, e, x.at, x.e)
		}
	}
}

// isLine follows the definition of the line of an example, with all places at which the arrow may be.
func isLine(line string) bool {
	isOutput := func(s string) bool {
		_, _, e := literal.Parse(s)
		return e == api.OK
	}
	if output, isWithout := strings.CutPrefix(line, "-> "); isWithout && isOutput(output) {
		return true
	}
	for i := 1; i < len(line); i++ {
		output, isArrow := strings.CutPrefix(line[i:], " -> ")
		if _, _, e := literal.ParseAll(line[:i]); isArrow && e == api.OK && isOutput(output) {
			return true
		}
	}
	return false
}

// P17.5: lines that are almost right.
func TestParseOfMutations(t *testing.T) {
	accepted, refused := 0, 0
	check := func(line string) {
		list, at, e := example.Parse("1 -> 1\n" + line + "\n2 -> 2\n")
		if strings.Contains(line, "\n") {
			return
		}
		if isLine(line) {
			accepted++
			s, _ := example.Print(list)
			if e != api.OK || at != 0 || s != "1 -> 1\n"+line+"\n2 -> 2\n" {
				t.Fatalf("%q: %v, %d, %d", line, list, at, e)
			}
			return
		}
		refused++
		if e != api.ErrSyntax || at != 2 || len(list) > 0 {
			t.Fatalf("%q: %v, %d, %d", line, list, at, e)
		}
	}
	for _, x := range lineCases() {
		line := strings.TrimSuffix(x.line, "\n")
		for i := range len(line) + 1 {
			check(line[:i])
			check(line[i:])
			check(line[:i] + " -> " + line[i:])
			for _, c := range "\x00 !\",->019[]{}<\\artx\x7f\xe9" {
				check(line[:i] + string(c) + line[i:])
				if i < len(line) {
					check(line[:i] + string(c) + line[i+1:])
				}
			}
			if i < len(line) {
				check(line[:i] + line[i+1:])
			}
		}
	}
	if accepted < 100 || refused < 1000 {
		t.Error(accepted, refused)
	}
}
