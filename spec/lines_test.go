package spec_test

import (
	"slices"
	"strings"
	"testing"

	"synthesis/api"
	"synthesis/example"
	"synthesis/formula"
	"synthesis/literal"
	"synthesis/spec"
	"synthesis/value"
)

// P20.3, P20.4, P20.6
func TestTexts(t *testing.T) {
	for i, x := range textCases() {
		if text, e := spec.Print(x.s); text != x.text || e != api.OK {
			t.Errorf("case %d: %q, %d", i, text, e)
		}
		if s, line, e := spec.Parse(x.text); e != api.OK || line != 0 || !sameSpec(s, x.s) {
			t.Errorf("case %d: %v, %d, %d", i, s, line, e)
		}
	}
}

// P20.3: the line of an example is the one that package example writes.
func TestExampleLines(t *testing.T) {
	for _, x := range []api.Example{number(1, -2), of(value.OfText("->")), of(value.OfInts(nil), value.OfText("a\\\""), value.OfTable(nil))} {
		line, _ := example.Print([]api.Example{x})
		if text := printed(and(with("true"), x)); text != "example "+line+"formula true\n" {
			t.Errorf("%q for %q", text, line)
		}
	}
}

// P20.3: the errors, and their order.
func TestPrintErrors(t *testing.T) {
	tooGreat, tooLong, noType := value.OfInt(api.MaxInt+1), value.OfText(strings.Repeat("a", 65)), api.Value{}
	fine := number(1, 1)
	large := with("true", slices.Repeat([][]api.Value{numbers(1)}, 10000)...)
	for i, x := range []struct {
		s    api.Spec
		want api.Errno
	}{
		{api.Spec{}, api.ErrForm},
		{api.Spec{Formula: nested(32, parsed("true"))}, api.ErrSize},
		{and(with("true"), of(tooGreat)), api.ErrRange},
		{and(with("true"), of(value.OfInt(1), noType)), api.ErrType},
		{with("true", []api.Value{tooLong}), api.ErrSize},
		{with("true", numbers(1), nil, []api.Value{value.OfInt(1), noType}), api.ErrType},
		// The order.
		{and(api.Spec{}, fine, of(tooGreat)), api.ErrRange},
		{and(api.Spec{}, of(tooGreat), of(noType)), api.ErrRange},
		{and(api.Spec{}, of(noType), of(tooGreat)), api.ErrType},
		{and(with("true", []api.Value{tooLong}), fine, of(noType)), api.ErrType},
		{and(with("true"), of(noType, tooLong)), api.ErrSize},
		{api.Spec{Domain: api.Domain{Axes: [][]api.Value{{noType}}}}, api.ErrForm},
		{with("true", []api.Value{noType, tooLong}, []api.Value{tooGreat}), api.ErrType},
		{with("true", []api.Value{tooGreat}, []api.Value{noType}), api.ErrRange},
		// The limit of bytes comes last.
		{large, api.ErrSize},
		{and(large, of(noType)), api.ErrType},
		{api.Spec{Domain: large.Domain}, api.ErrForm},
		{with("true", append(slices.Clone(large.Domain.Axes), []api.Value{noType})...), api.ErrType},
	} {
		if text, e := spec.Print(x.s); e != x.want || text != "" {
			t.Errorf("case %d: %q, %d, not %d", i, text, e, x.want)
		}
	}
}

// P20.3, P20.4: the limit of bytes.
func TestLongTexts(t *testing.T) {
	// "formula true" and a line feed have 13 bytes, "axis 1" and a line feed 7.
	var axes [][]api.Value
	for range (api.MaxSource - 13) / 7 {
		axes = append(axes, numbers(1))
	}
	length := 13 + 7*len(axes)
	// Each ", 1" has 3 bytes, and each further digit 1.
	for ; length+3 <= api.MaxSource; length += 3 {
		axes[0] = append(axes[0], value.OfInt(1))
	}
	for factor := int64(10); length < api.MaxSource; length++ {
		axes[1] = numbers(factor)
		factor *= 10
	}
	s := with("true", axes...)
	text, e := spec.Print(s)
	if e != api.OK || len(text) != api.MaxSource {
		t.Fatalf("%d bytes, %d", len(text), e)
	}
	if again, line, e := spec.Parse(text); e != api.OK || line != 0 || !sameSpec(again, s) {
		t.Error(line, e)
	}
	axes[2] = numbers(-1)
	if text, e := spec.Print(s); e != api.ErrSize || text != "" {
		t.Errorf("%d bytes, %d", len(text), e)
	}
	for _, longer := range []string{text + "\n", text + "axis\n", strings.Repeat("\n", api.MaxSource+1), strings.Repeat("x", 10*api.MaxSource)} {
		if s, line, e := spec.Parse(longer); e != api.ErrSize || line != 0 || !isZero(s) {
			t.Errorf("%d bytes: %d, %d", len(longer), line, e)
		}
	}
	if s, line, e := spec.Parse(strings.Repeat("\n", api.MaxSource)); e != api.ErrSyntax || line != 1 || !isZero(s) {
		t.Error(line, e)
	}
	if s, line, e := spec.Parse(strings.Repeat("example -> 1234\n", api.MaxSource/16)); e != api.ErrSyntax || line != api.MaxSource/16+1 || !isZero(s) {
		t.Error(line, e)
	}
}

// P20.4: the first line that is wrong.
func TestFaults(t *testing.T) {
	const start = "example 1 -> 2\nformula true\n"
	for _, x := range []struct {
		text string
		line int
	}{
		{"", 1}, {"example 1 -> 2\n", 2}, {"example 1 -> 2\nexample 1 -> 2\n", 3},
		{"\n", 1}, {" \n", 1}, {"formula true", 1}, {"formula true\n\n", 2}, {"\nformula true\n", 1}, {"formula\n", 1}, {"formula \n", 1}, {"formula  true\n", 1}, {"formula true \n", 1}, {"formula tru\n", 1}, {" formula true\n", 1}, {"Formula true\n", 1}, {"formula true\r\n", 1}, {"formula eq(out)\n", 1}, {"formulatrue\n", 1},
		{"axis\n", 1}, {"axis\nformula true\n", 1}, {"axis 1\nformula true\n", 1}, {"example 1 -> 2\naxis\n", 2}, {"example 1 -> 2\naxis 1\nformula true\n", 2},
		{"example\nformula true\n", 1}, {"example \nformula true\n", 1}, {"example 1\nformula true\n", 1}, {"example 1->2\nformula true\n", 1}, {"example  1 -> 2\nformula true\n", 1}, {"example  -> 2\nformula true\n", 1}, {"example 1 -> 2 \nformula true\n", 1}, {"example 01 -> 2\nformula true\n", 1}, {"example 1 -> 1000001\nformula true\n", 1}, {"exampl 1 -> 2\nformula true\n", 1}, {"1 -> 2\nformula true\n", 1}, {"example1 -> 2\nformula true\n", 1},
		{start + "example 1 -> 2\n", 3}, {start + "formula true\n", 3}, {start + "axis\nformula true\n", 4}, {start + "axis\nexample 1 -> 2\n", 4},
		{start + "axis \n", 3}, {start + "axis  1\n", 3}, {start + "axis 1,2\n", 3}, {start + "axis 1, \n", 3}, {start + "axis 1,\n", 3}, {start + "axis 1 2\n", 3}, {start + "axis1\n", 3}, {start + "axis\t1\n", 3}, {start + "axis 1 \n", 3}, {start + "axis x\n", 3}, {start + "axi\n", 3}, {start + "axes\n", 3}, {start + "axis 1\x00\n", 3}, {start + "1\n", 3}, {start + " 1\n", 3},
		{start + "axis", 3}, {start + "axis 1\naxis 2", 4}, {"example 1 -> 2\nexample 1 -> 2", 2}, {"example 1 -> 2\nformula true", 2}, {start + "axis 1\n\n", 4}, {start + "axis 1\n ", 4},
		// The first one counts.
		{"axis\n\nformula x\n", 1}, {"example 1 -> 2\nexample\nformula x\naxis 01", 2}, {start + "axis 01\naxis", 3}, {"example 1 -> 2\nformula x\naxis 01", 2},
	} {
		if s, line, e := spec.Parse(x.text); e != api.ErrSyntax || line != x.line || !isZero(s) {
			t.Errorf("%q: %v, %d, %d, not %d", x.text, s, line, e, x.line)
		}
	}
}

// fault follows the definition of the first line that is wrong. It returns 0 if there is none.
func fault(text string) int {
	lines := strings.SplitAfter(text, "\n")
	if lines[len(lines)-1] == "" {
		lines = lines[:len(lines)-1]
	}
	hasFormula := false
	for i, line := range lines {
		word, rest, hasSpace := strings.Cut(strings.TrimSuffix(line, "\n"), " ")
		isRight := false
		switch {
		case !strings.HasSuffix(line, "\n"):
		case word == "axis" && !hasSpace:
			isRight = hasFormula
		case word == "axis":
			l, _, e := literal.ParseAll(rest)
			isRight = hasFormula && len(l) > 0 && e == api.OK
		case word == "formula" && hasSpace:
			_, _, e := formula.Parse(rest)
			isRight = !hasFormula && e == api.OK
			hasFormula = true
		case word == "example" && hasSpace:
			_, _, e := example.Parse(rest + "\n")
			isRight = !hasFormula && e == api.OK
		}
		if !isRight {
			return i + 1
		}
	}
	if !hasFormula {
		return len(lines) + 1
	}
	return 0
}

// P20.4, P20.6: texts with one change. What is read is written as it was, and nothing else is read.
func TestChangedTexts(t *testing.T) {
	pieces := []string{"", "\n", " ", "axis", "axis\n", "formula true\n", "example 1 -> 2\n", "1", "->", ",", "x", "\"", "\r", "\xff"}
	for _, x := range textCases() {
		if len(x.text) > 300 {
			continue
		}
		for at := range len(x.text) + 1 {
			for _, piece := range pieces {
				for end := at; end <= min(at+1, len(x.text)); end++ {
					checkText(t, x.text[:at]+piece+x.text[end:])
				}
			}
			checkText(t, x.text[:at])
			checkText(t, x.text[at:])
		}
		lines := strings.SplitAfter(strings.TrimSuffix(x.text, "\n"), "\n")
		lines[len(lines)-1] += "\n"
		for i := range lines {
			checkText(t, strings.Join(slices.Delete(slices.Clone(lines), i, i+1), ""))
			for k := range lines {
				checkText(t, strings.Join(slices.Insert(slices.Clone(lines), k, lines[i]), ""))
			}
		}
	}
}

func checkText(t *testing.T, text string) {
	t.Helper()
	s, line, e := spec.Parse(text)
	if want := fault(text); line != want || (e == api.OK) != (want == 0) || e != api.OK && (e != api.ErrSyntax || !isZero(s)) {
		t.Fatalf("%q: %v, %d, %d, not %d", text, s, line, e, want)
	}
	if again, f := spec.Print(s); e == api.OK && (again != text || f != api.OK) {
		t.Fatalf("%q is written %q, %d", text, again, f)
	}
}
