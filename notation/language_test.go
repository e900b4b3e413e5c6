package notation_test

import (
	"strconv"
	"strings"
	"testing"

	"synthesis/api"
	"synthesis/grammar"
	"synthesis/notation"
	"synthesis/value"
)

// sumsText is the text of sums.
const sumsText = "language n\ninputs int\nsymbol S int\nrule S = in0\nrule S = add(S, S)\n"

// P14.4, P14.5: what PrintLanguage writes is read.
func TestParseLanguage(t *testing.T) {
	noInputs := api.Language{Name: "N-1", Symbols: []api.Symbol{{Name: "A1-", Type: api.Bits}}}
	many := numbers("S")
	many.Inputs = []int{api.Table, api.Pattern, api.Bits, api.Ints}
	for i := range api.MaxRules {
		many.Rules = append(many.Rules, constant(0, value.OfInt(int64(i))))
	}
	long := numbers("")
	long.Name = strings.Repeat("x", api.MaxName)
	for i := range api.MaxSymbols {
		long.Symbols = append(long.Symbols, api.Symbol{Name: "A" + strings.Repeat("-", api.MaxName-3) + strconv.Itoa(10+i), Type: api.Int})
		long.Rules = append(long.Rules, apply(i, "sub", 0, i))
	}
	for _, l := range append(family(), sums(), everything(), misleading(), ambiguous(), noInputs, many, long) {
		s, e := notation.PrintLanguage(l)
		if e != api.OK {
			t.Fatalf("%v: %d", l, e)
		}
		if got, line, e := notation.ParseLanguage(s); !grammar.Same(got, l) || line != 0 || e != api.OK {
			t.Errorf("ParseLanguage of %q is %v, %d, %d", s, got, line, e)
		}
	}
	if got, line, e := notation.ParseLanguage(sumsText); !grammar.Same(got, sums()) || line != 0 || e != api.OK {
		t.Error(got, line, e)
	}
}

// languageCase is a text, and the line and the error that ParseLanguage must return for it.
type languageCase struct {
	s    string
	line int
	e    api.Errno
}

func checkLanguages(t *testing.T, cases []languageCase) {
	t.Helper()
	for _, x := range cases {
		if got, line, e := notation.ParseLanguage(x.s); line != x.line || e != x.e || !grammar.Same(got, api.Language{}) {
			t.Errorf("ParseLanguage of %q is %v, %d, %d, not %d, %d", x.s, got, line, e, x.line, x.e)
		}
	}
}

// P14.4: lines that cannot stand at their place, or that are not there.
func TestPlacesOfLines(t *testing.T) {
	const head = "language n\ninputs int\n"
	checkLanguages(t, []languageCase{
		{"", 1, api.ErrSyntax},
		{"\n", 1, api.ErrSyntax},
		{"language n", 1, api.ErrSyntax},
		{"language n\n", 2, api.ErrSyntax},
		{"language n\ninputs", 2, api.ErrSyntax},
		{"language n\ninputs int", 2, api.ErrSyntax},
		{"language n\n\n", 2, api.ErrSyntax},
		{"inputs int\nlanguage n\n", 1, api.ErrSyntax},
		{"symbol S int\n", 1, api.ErrSyntax},
		{"rule S = in0\n", 1, api.ErrSyntax},
		{"language n\nlanguage n\n", 2, api.ErrSyntax},
		{"language n\nsymbol S int\n", 2, api.ErrSyntax},
		{"language n\nrule S = in0\n", 2, api.ErrSyntax},
		{"\n" + sumsText, 1, api.ErrSyntax},
		{" " + sumsText, 1, api.ErrSyntax},
		{head + "language n\n", 3, api.ErrSyntax},
		{head + "inputs int\n", 3, api.ErrSyntax},
		{head + "\n", 3, api.ErrSyntax},
		{head + "symbol S int\n\nrule S = in0\n", 4, api.ErrSyntax},
		{head + "symbol S int\nrule S = in0\nsymbol A int\n", 5, api.ErrSyntax},
		{head + "symbol S int\nrule S = in0\nsymbol S int\nrule S = in0\n", 5, api.ErrSyntax},
		{sumsText + "language n\n", 6, api.ErrSyntax},
		{sumsText + "inputs int\n", 6, api.ErrSyntax},
		{sumsText + "\n", 6, api.ErrSyntax},
		{sumsText + " ", 6, api.ErrSyntax},
		{sumsText + "x", 6, api.ErrSyntax},
		{sumsText + "x\n", 6, api.ErrSyntax},
		{sumsText + "rule S = neg(S)", 6, api.ErrSyntax},
		{sumsText + "rule S = neg(S)\r\n", 6, api.ErrSyntax},
		{strings.TrimSuffix(sumsText, "\n"), 5, api.ErrSyntax},
		{strings.ReplaceAll(sumsText, "\n", "\r\n"), 1, api.ErrSyntax},
		// The first line with an error counts.
		{head + "symbol S int\nrule A = in0\nx\n", 4, api.ErrName},
		{head + "symbol S int\nx\nrule A = in0\n", 4, api.ErrSyntax},
		{head + "symbol S int\nsymbol S int\nx\n", 5, api.ErrSyntax},
		{"language 1\ninputs x\n", 1, api.ErrSyntax},
		{"language n\ninputs x\nrule A = in0", 2, api.ErrSyntax},
	})
}

// P14.4: the forms of the lines of the first three kinds.
func TestFormsOfLines(t *testing.T) {
	var cases []languageCase
	for _, line := range []string{"language", "language ", "language  n", "language n ", "language n m", "language 1", "language -n", "language n_", "language \u00e9", "Language n", "languagen", "language\tn", "language " + strings.Repeat("n", api.MaxName+1)} {
		cases = append(cases, languageCase{line + "\ninputs int\nsymbol S int\n", 1, api.ErrSyntax})
	}
	for _, line := range []string{"inputs ", "inputs  int", "inputs int ", "inputs int  int", "inputs x", "inputs int, int", "inputs Int", "inputs 2", "input int", "inputsint", "inputs int int int int x", " inputs int"} {
		cases = append(cases, languageCase{"language n\n" + line + "\nsymbol S int\n", 2, api.ErrSyntax})
	}
	for _, line := range []string{"symbol", "symbol ", "symbol S", "symbol S ", "symbol  S int", "symbol S  int", "symbol S int ", "symbol S int int", "symbol S x", "symbol 1 int", "symbol S1_ int", "symbol -S int", "symbol int", "symbols S int", "Symbol S int", "symbol " + strings.Repeat("S", api.MaxName+1) + " int"} {
		cases = append(cases, languageCase{"language n\ninputs int\nsymbol S int\n" + line + "\n", 4, api.ErrSyntax})
	}
	checkLanguages(t, cases)
}

// P14.4: the forms of rules.
func TestFormsOfRules(t *testing.T) {
	name := strings.Repeat("N", api.MaxName)
	start := strings.TrimSuffix(sumsText, "\n")
	start = start[:strings.LastIndex(start, "\n")+1]
	var cases []languageCase
	for _, line := range []string{
		"rule", "rule ", "rule S", "rule S ", "rule S =", "rule S = ", "rule  = in0", "rule = in0", "rule S in0", "rule S  = in0", "rule S =  in0", "rule S = in0 ", "rule S= in0", "rule S =in0", "rule  S = in0", "rules S = in0", "Rule S = in0",
		"rule S S = in0", "rule 1 = in0", "rule S_ = in0", "rule S = = in0", "rule N" + name + " = in0",
		"rule S = S", "rule S = add", "rule S = in4", "rule S = in", "rule S = in00", "rule S = in-", "rule S = in/", "rule S = in:", "rule S = ina", "rule S = in0 in0", "rule S = in-1",
		"rule S = 01", "rule S = 1000001", "rule S = -0", "rule S = - 1", "rule S = \"a", "rule S = [1,2]", "rule S = 0x0F", "rule S = True", "rule S = r\"\"", "rule S = 1 ", "rule S = 1, 2",
		"rule S = add(", "rule S = add(S, S", "rule S = add(S, S) ", "rule S = add(S, S))", "rule S = add(S,S)", "rule S = add(S,  S)", "rule S = add( S, S)", "rule S = add(S, S )", "rule S = add (S, S)", "rule S = add(S, S)(", "rule S = add((S, S)",
		"rule S = add(, S)", "rule S = add(S, )", "rule S = add(S, , S)", "rule S = add(,)", "rule S = add(, )", "rule S = add( )", "rule S = (S, S)", "rule S = ()", "rule S = )", "rule S = add)", "rule S = )(", "rule S = add)S(",
		"rule S = add(1, S)", "rule S = add(\"a\", S)", "rule S = add(S, neg(S))", "rule S = add(S_, S)", "rule S = 1dd(S, S)", "rule S = add_(S, S)", "rule S = -(S, S)", "rule S = add(S, -S)", "rule S = N" + name + "(S)", "rule S = add(S, N" + name + ")",
		// The form comes before the names of symbols, also of those that stand further to the left.
		"rule Q = foo", "rule Q = add(S, S", "rule S = add(Q, 1)", "rule Q = 01",
	} {
		cases = append(cases, languageCase{start + line + "\n" + "rule S = neg(S)\n", 5, api.ErrSyntax})
	}
	for _, line := range []string{"rule Q = in0", "rule Q = 1", "rule Q = add(S, S)", "rule S = add(Q, S)", "rule S = add(S, Q)", "rule S = add(S, s)", "rule S = add(in0, in0)", "rule S = neg(" + name + ")", "rule S = foo(Q)", "rule Q = foo()", "rule " + name + " = in0", "rule S = add(S, S, S, S, S, Q)"} {
		cases = append(cases, languageCase{start + line + "\n" + "x\n", 5, api.ErrName})
		// A missing line feed comes before the name.
		cases = append(cases, languageCase{start + line, 5, api.ErrSyntax})
	}
	checkLanguages(t, cases)
}

// P14.4: texts of languages that are not valid.
func TestLanguagesThatAreNotValid(t *testing.T) {
	const head = "language n\ninputs int\nsymbol S int\n"
	rules := func(n int) string {
		var b strings.Builder
		for i := range n {
			b.WriteString("rule S = " + strconv.Itoa(i) + "\n")
		}
		return b.String()
	}
	symbols := func(n int) string {
		var b strings.Builder
		for i := range n {
			b.WriteString("symbol S" + strconv.Itoa(i) + " int\n")
		}
		return b.String()
	}
	checkLanguages(t, []languageCase{
		{"language n\ninputs\n", 0, api.ErrSize},
		{"language n\ninputs int\n", 0, api.ErrSize},
		{"language n\ninputs int int int int int\nsymbol S int\n", 0, api.ErrSize},
		{"language n\ninputs\n" + symbols(api.MaxSymbols+1), 0, api.ErrSize},
		{head + "symbol S int\n", 0, api.ErrTwice},
		{head + "symbol S text\nrule S = in0\nrule S = \"a\"\n", 0, api.ErrTwice},
		{head + rules(api.MaxRules+1), 0, api.ErrSize},
		{head + "rule S = in1\n", 0, api.ErrRange},
		{head + "rule S = in3\n", 0, api.ErrRange},
		{head + "symbol T text\nrule T = in0\n", 0, api.ErrType},
		{head + "rule S = \"a\"\n", 0, api.ErrType},
		{head + "rule S = true\n", 0, api.ErrType},
		{head + "rule S = foo(S)\n", 0, api.ErrName},
		{head + "rule S = foo()\n", 0, api.ErrName},
		{head + "rule S = in0()\n", 0, api.ErrName},
		{head + "rule S = in9(S)\n", 0, api.ErrName},
		{head + "rule S = true(S)\n", 0, api.ErrName},
		{head + "rule S = A-1(S)\n", 0, api.ErrName},
		{head + "rule S = " + strings.Repeat("a", api.MaxName) + "(S)\n", 0, api.ErrName},
		{head + "rule S = add()\n", 0, api.ErrSize},
		{head + "rule S = add(S)\n", 0, api.ErrSize},
		{head + "rule S = add(S, S, S, S, S)\n", 0, api.ErrSize},
		{head + "symbol T text\nrule S = add(S, T)\n", 0, api.ErrType},
		{head + "rule S = in0\nrule S = in0\n", 0, api.ErrTwice},
		{sumsText + "rule S = in0\n", 0, api.ErrTwice},
	})
	for _, s := range []string{head, "language n\ninputs\n" + symbols(api.MaxSymbols), head + rules(api.MaxRules), "language n\ninputs int int int int\nsymbol S int\n"} {
		got, line, e := notation.ParseLanguage(s)
		if line != 0 || e != api.OK {
			t.Errorf("%q: %d, %d", s, line, e)
		}
		if again, e := notation.PrintLanguage(got); again != s || e != api.OK {
			t.Errorf("%q, %d, not %q", again, e, s)
		}
	}
}

// P14.4: the number of bytes comes before everything else.
func TestSizesOfLanguages(t *testing.T) {
	const head = "language n\ninputs int\nsymbol S int\n"
	neg := strings.Repeat("rule S = neg(S)\n", api.MaxSource/16)
	full := head + neg
	checkLanguages(t, []languageCase{
		{strings.Repeat("x", api.MaxSource), 1, api.ErrSyntax},
		{strings.Repeat("x", api.MaxSource+1), 0, api.ErrSize},
		{strings.Repeat("\n", api.MaxSource), 1, api.ErrSyntax},
		{strings.Repeat("\n", api.MaxSource+1), 0, api.ErrSize},
		{full[:api.MaxSource], 4 + (api.MaxSource-len(head))/16, api.ErrSyntax},
		{full, 0, api.ErrSize},
		{head + "rule S = neg(" + strings.Repeat("S, ", 21800) + "S)\n", 0, api.ErrSize},
		{head + "rule S = neg(" + strings.Repeat("S, ", 21800) + "Q)\n", 4, api.ErrName},
		{head + neg[:16*2000], 0, api.ErrSize},
		{"language n\ninputs" + strings.Repeat(" int", 16000) + "\n", 0, api.ErrSize},
	})
}

// filled returns a table with as many letters as wanted, in the greatest number of cells.
func filled(letter string, count int) api.Value {
	var rows [][]string
	for range api.MaxRows {
		var row []string
		for range api.MaxCols {
			n := min(count, api.MaxText)
			count -= n
			row = append(row, strings.Repeat(letter, n))
		}
		rows = append(rows, row)
	}
	return value.OfTable(rows)
}

// P14.4: a language whose text has as many bytes as permitted, and one with one more.
func TestLongestLanguage(t *testing.T) {
	l := api.Language{Name: "n", Symbols: []api.Symbol{{Name: "T", Type: api.Table}}}
	const full = api.MaxRows * api.MaxCols * api.MaxText
	for i := range 14 {
		l.Rules = append(l.Rules, constant(0, filled(string(rune('a'+i)), full)))
	}
	last := func(count int) string {
		m := l
		m.Rules = append(l.Rules[:14:14], constant(0, filled("z", count)))
		s, e := notation.PrintLanguage(m)
		if e != api.OK {
			t.Fatal(e)
		}
		return s
	}
	missing := api.MaxSource - len(last(0))
	longest, tooLong := last(missing), last(missing+1)
	if len(longest) != api.MaxSource || len(tooLong) != api.MaxSource+1 {
		t.Fatal(len(longest), len(tooLong))
	}
	got, line, e := notation.ParseLanguage(longest)
	if line != 0 || e != api.OK {
		t.Fatal(line, e)
	}
	if s, e := notation.PrintLanguage(got); s != longest || e != api.OK {
		t.Error(len(s), e)
	}
	checkLanguages(t, []languageCase{{tooLong, 0, api.ErrSize}})
}

// P14.4: texts that are almost the text of a language.
func TestMutationsOfLanguages(t *testing.T) {
	s, _ := notation.PrintLanguage(everything())
	short, _ := notation.PrintLanguage(misleading())
	for _, s := range []string{sumsText, short, s} {
		mutations(s, "\n (),=-\"0S", func(s string) {
			l, line, e := notation.ParseLanguage(s)
			if e == api.OK {
				if again, e := notation.PrintLanguage(l); again != s || line != 0 || e != api.OK {
					t.Fatalf("%q is read with the line %d, and written as %q, %d", s, line, again, e)
				}
				return
			}
			if !grammar.Same(l, api.Language{}) {
				t.Fatalf("ParseLanguage of %q is %v, %d, %d", s, l, line, e)
			}
			checkLine(t, s, line, e)
		})
	}
}

// checkLine checks that the line with the number is the first one with an error: that the lines before it have none, and that it has the same one if nothing follows.
func checkLine(t *testing.T, s string, line int, e api.Errno) {
	t.Helper()
	lines := strings.SplitAfter(s, "\n")
	if line < 0 || line > len(lines) || line > 0 && e != api.ErrSyntax && e != api.ErrName {
		t.Fatalf("%q has the error %d in line %d", s, e, line)
	}
	if line == 0 {
		return
	}
	if _, n, f := notation.ParseLanguage(strings.Join(lines[:line], "")); n != line || f != e {
		t.Fatalf("%q has the error %d in line %d, but %d in line %d if nothing follows", s, e, line, f, n)
	}
	if _, n, f := notation.ParseLanguage(strings.Join(lines[:line-1], "")); n != 0 && (n != line || f != api.ErrSyntax || line > 2) {
		t.Fatalf("%q has the error %d in line %d, but %d in line %d without it", s, e, line, f, n)
	}
}

// DOC.md, rule 5: results share no memory with each other.
func TestMemoryOfLanguages(t *testing.T) {
	s, _ := notation.PrintLanguage(everything())
	first, _, _ := notation.ParseLanguage(s)
	second, _, _ := notation.ParseLanguage(s)
	for _, r := range second.Rules {
		clear(r.Args[:cap(r.Args)])
		clear(r.Const.Items[:cap(r.Const.Items)])
	}
	clear(second.Inputs[:cap(second.Inputs)])
	clear(second.Symbols[:cap(second.Symbols)])
	clear(second.Rules[:cap(second.Rules)])
	if !grammar.Same(first, everything()) {
		t.Error(first)
	}
	for i := range first.Rules {
		clear(first.Rules[i].Args[:cap(first.Rules[i].Args)])
		clear(first.Rules[i].Const.Items[:cap(first.Rules[i].Const.Items)])
		want := everything()
		for k := i + 1; k < len(first.Rules); k++ {
			if !grammar.Same(api.Language{Rules: first.Rules[k : k+1]}, api.Language{Rules: want.Rules[k : k+1]}) {
				t.Fatalf("the rules %d and %d share memory", i, k)
			}
		}
	}
}

// DOC.md, rule 5: the arguments of a term share no memory.
func TestMemoryOfTerms(t *testing.T) {
	l := ambiguous()
	const s = "add(neg(in0), neg(in0))"
	first, _, _ := notation.Parse(l, 0, s)
	second, _, _ := notation.Parse(l, 0, s)
	want := textOf(l, first.Args[1])
	clear(first.Args[0].Args)
	if textOf(l, first.Args[1]) != want || textOf(l, second) != s {
		t.Error(first, second)
	}
	clear(first.Args)
	if textOf(l, second) != s || !grammar.Same(l, ambiguous()) {
		t.Error(second)
	}
}
