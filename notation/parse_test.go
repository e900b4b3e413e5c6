package notation_test

import (
	"math"
	"strings"
	"testing"

	"synthesis/api"
	"synthesis/grammar"
	"synthesis/notation"
	"synthesis/term"
	"synthesis/value"
)

// checkFirst checks that Parse returns, for each text of a term up to a size, the first term of the symbol with this text.
func checkFirst(t *testing.T, l api.Language, most int) {
	t.Helper()
	texts := map[string]bool{}
	first := make([]map[string]api.Term, len(l.Symbols))
	for symbol := range l.Symbols {
		first[symbol] = map[string]api.Term{}
		for _, x := range derived(l, symbol, most) {
			s := textOf(l, x)
			texts[s] = true
			if y, isKnown := first[symbol][s]; !isKnown {
				first[symbol][s] = x
			} else if term.Size(x) != term.Size(y) {
				t.Fatalf("%v: the terms %v and %v have the same text", l, x, y)
			}
			if got, e := notation.Print(l, x); got != s || e != api.OK {
				t.Fatalf("%v: Print of %v is %q, %d", l, x, got, e)
			}
		}
	}
	for s := range texts {
		for symbol := range l.Symbols {
			want, isThere := first[symbol][s]
			got, at, e := notation.Parse(l, symbol, s)
			if isThere != (e == api.OK) || !isThere && e != api.ErrNone || at != 0 || term.Compare(got, want) != 0 {
				t.Fatalf("%v: Parse of %q for symbol %d is %v, %d, %d, not %v", l, s, symbol, got, at, e, want)
			}
		}
	}
}

// P14.2, P14.5: all texts of short terms of many languages, in which many terms have the same text.
func TestParseReturnsFirst(t *testing.T) {
	for _, l := range family() {
		checkFirst(t, l, 5)
	}
	checkFirst(t, ambiguous(), 6)
	checkFirst(t, everything(), 3)
	checkFirst(t, misleading(), 6)
	checkFirst(t, sums(), 11)
}

// P14.2: the rules decide which term is the first one, and a rule that leads to no term is passed over.
func TestParseOfAmbiguous(t *testing.T) {
	l := ambiguous()
	for _, x := range []struct {
		symbol int
		s      string
		rules  []int
	}{
		{0, "add(in0, in0)", []int{0, 5, 8}},
		{0, "add(1, in0)", []int{1, 6, 5}},
		{0, "add(in0, 2)", []int{1, 8, 9}},
		{0, "add(2, 2)", []int{4, 12, 9}},
		{1, "add(2, 2)", []int{7, 9, 12}},
		{2, "add(in0, 1)", []int{10, 8, 6}},
		{0, "add(neg(in0), neg(in0))", []int{0, 2, 8, 3, 5}},
		{0, "neg(add(neg(2), 2))", []int{11, 1, 3, 9, 9}},
	} {
		want, e := term.Build(l, x.rules)
		if e != api.OK {
			t.Fatal(x.rules, e)
		}
		if got, at, e := notation.Parse(l, x.symbol, x.s); term.Compare(got, want) != 0 || at != 0 || e != api.OK {
			t.Errorf("Parse of %q is %v, %d, %d, not %v", x.s, got, at, e, want)
		}
	}
}

// P14.2: texts that are no expressions.
func TestParseFaults(t *testing.T) {
	for _, x := range []struct {
		s  string
		at int
	}{
		{"", 0},
		{" ", 0},
		{"(", 0},
		{")", 0},
		{",", 0},
		{"\n", 0},
		{"\x00", 0},
		{"\xff", 0},
		{"\u00e9", 0},
		{"S", 0},
		{" in0", 0},
		{"in0 ", 3},
		{"in0,", 3},
		{"in0(", 3},
		{"in0-", 3},
		{"in", 0},
		{"in4", 0},
		{"in9", 0},
		{"in00", 0},
		{"in01", 0},
		{"in-1", 0},
		{"In0", 0},
		{"in0x", 0},
		{"i", 0},
		{"true ", 4},
		{"true1", 0},
		{"truet", 0},
		{"True", 0},
		{"true(", 4},
		{"fals", 0},
		{"false)", 5},
		{"falsefalse", 0},
		{"r", 0},
		{"r ", 0},
		{"rr\"a\"", 0},
		{"r1\"a\"", 0},
		{"R\"a\"", 0},
		{"r\"", 2},
		{"r\"\"", 2},
		{"r\"a", 3},
		{"r\"a\"\"", 4},
		{"r'a'", 0},
		{"foo(in0)", 0},
		{"Add(in0, in0)", 0},
		{"ADD(in0, in0)", 0},
		{"addd(in0, in0)", 0},
		{"add1(in0, in0)", 0},
		{"add", 3},
		{"add ", 3},
		{"add (in0, in0)", 3},
		{"add-(in0, in0)", 3},
		{"add[", 3},
		{"add)", 3},
		{"add(", 4},
		{"add()", 4},
		{"add( in0, in0)", 4},
		{"add(,", 4},
		{"add(in0", 7},
		{"add(in0)", 7},
		{"add(in0 ,", 7},
		{"add(in0,", 8},
		{"add(in0,in0)", 8},
		{"add(in0,, in0)", 8},
		{"add(in0, ", 9},
		{"add(in0,  in0)", 9},
		{"add(in0, )", 9},
		{"add(in0, in0", 12},
		{"add(in0, in0 )", 12},
		{"add(in0, in0, in0)", 12},
		{"add(in0, in0) ", 13},
		{"add(in0, in0))", 13},
		{"add(in0, in0)in0", 13},
		{"add(in0, foo(in0))", 9},
		{"add(in0, S)", 9},
		{"add(add(in0, in0)", 17},
		{"add(add(in0, in0), ", 19},
		{"neg(in0, in0)", 7},
		{"neg()", 4},
		{"slice(in0, in1)", 14},
		{"slice(in0, in1, in2, in3)", 19},
		{"transpose(in4)", 10},
		// Literals: the longest one is read, or the fault is that of the rest.
		{"0x", 1},
		{"0x)", 1},
		{"0x0", 1},
		{"0x0g", 1},
		{"0x0F", 1},
		{"0X0f", 1},
		{"0x0f0", 4},
		{"00", 1},
		{"01", 1},
		{"-", 1},
		{"--1", 1},
		{"-0", 1},
		{"-x", 1},
		{"- 1", 1},
		{"+1", 0},
		{"1.5", 1},
		{"1 ", 1},
		{"1in0", 1},
		{"1000001", 6},
		{"-1000001", 7},
		{"10000000", 7},
		{"\"", 1},
		{"\"a", 2},
		{"\"a\\", 3},
		{"\"a\\n\"", 3},
		{"\"\\x41\"", 2},
		{"\"a\n\"", 2},
		{"\"\u00e9\"", 1},
		{"\"a\"\"", 3},
		{"\"" + strings.Repeat("a", 65) + "\"", 65},
		{"[", 1},
		{"[1", 2},
		{"[1,2]", 3},
		{"[1, ", 4},
		{"[01]", 2},
		{"[0x0f]", 2},
		{"[in0]", 1},
		{"[\"a\"]", 1},
		{"[]]", 2},
		{"{1}", 1},
		{"{\"a\", \"b\"", 9},
		{"<{\"a\"}, {\"b\", ", 12},
		{"<{}>", 2},
		{"<>>", 2},
		{"add(0x, in0)", 5},
		{"add(0x0, in0)", 5},
		{"add(0, 0x)", 8},
		{"add(-, in0)", 5},
		{"add(01, in0)", 5},
		{"add([1, 2, 3)", 12},
		{"add([1], [2,])", 12},
		{"add(true1, in0)", 4},
		{"add(r\"a, in0)", 13},
		{"add(\"a), in0)", 13},
		{"add(1000001, in0)", 10},
		{"not(r)", 4},
	} {
		if got, at, e := notation.Parse(sums(), 0, x.s); at != x.at || e != api.ErrSyntax || !isEmpty(got) {
			t.Errorf("Parse of %q is %v, %d, %d, not %d", x.s, got, at, e, x.at)
		}
	}
}

// P14.2: expressions of which no term of the symbol is written.
func TestParseOfOtherExpressions(t *testing.T) {
	for _, s := range []string{
		"in1", "in3", "1", "-5", "true", "false", `""`, `"a\"\\"`, `r"a"`, `r"\""`, "0x0f", "0", "[]", "[1, -2]", "{}", `{"a", ""}`, "<>", `<{"a", "b"}, {"c", "d"}>`,
		"add(1, in0)", "add(in0, 1)", "add(in0, in1)", "add(true, in0)", `add("a", <>)`, "neg(in0)", "sub(in0, in0)", "add(in0, add(in0, neg(in0)))",
		`splitcolumn(in0, transpose(in0), "b")`, "ifint(true, false, in0)", "not(in0)", "add(0, 0x00)", "add(0x00, 0)", "1000000", "add(100000, -100000)", "eqbits(0x0f, 0xff)",
	} {
		if got, at, e := notation.Parse(sums(), 0, s); at != 0 || e != api.ErrNone || !isEmpty(got) {
			t.Errorf("Parse of %q is %v, %d, %d", s, got, at, e)
		}
	}
	// The symbol counts, not only the text.
	l := everything()
	for symbol := range l.Symbols {
		_, at, e := notation.Parse(l, symbol, "sum([])")
		if (e == api.OK) != (symbol == 1) || at != 0 || symbol != 1 && e != api.ErrNone {
			t.Errorf("symbol %d: %d, %d", symbol, at, e)
		}
	}
	// Constants that are none of the language, some of which are almost like one.
	for _, s := range []string{"1", "12", "1000", "0x01", `"0"`, `"a"`, `r"a"`, "[1]", "[1, 2]", `{""}`, `<{"a"}>`, `{"a", "b"}`} {
		for symbol := range l.Symbols {
			if got, at, e := notation.Parse(l, symbol, s); e != api.ErrNone || at != 0 || !isEmpty(got) {
				t.Errorf("Parse of %q for symbol %d is %v, %d, %d", s, symbol, got, at, e)
			}
		}
	}
}

// P14.2: the order of errors.
func TestParseErrors(t *testing.T) {
	tooLong := strings.Repeat("(", api.MaxSource+1)
	for _, l := range invalid() {
		for _, s := range []string{"in0", "(", tooLong} {
			for _, symbol := range []int{-1, 0} {
				if got, at, e := notation.Parse(l, symbol, s); at != 0 || e != grammar.Check(l) || !isEmpty(got) {
					t.Errorf("%v: %v, %d, %d", l, got, at, e)
				}
			}
		}
	}
	l := numbers("SA", input(0, 0))
	for _, symbol := range []int{-1, 2, math.MinInt, math.MaxInt} {
		for _, s := range []string{"in0", "(", tooLong} {
			if got, at, e := notation.Parse(l, symbol, s); at != 0 || e != api.ErrRange || !isEmpty(got) {
				t.Errorf("symbol %d: %v, %d, %d", symbol, got, at, e)
			}
		}
	}
	if got, at, e := notation.Parse(l, 0, tooLong); at != 0 || e != api.ErrSize || !isEmpty(got) {
		t.Error(got, at, e)
	}
	if got, at, e := notation.Parse(l, 1, "in0 "); at != 3 || e != api.ErrSyntax || !isEmpty(got) {
		t.Error(got, at, e)
	}
	if got, at, e := notation.Parse(l, 1, "in0"); at != 0 || e != api.ErrNone || !isEmpty(got) {
		t.Error(got, at, e)
	}
}

// P14.2: the limits of texts and terms.
func TestParseLimits(t *testing.T) {
	l := numbers("S", input(0, 0), apply(0, "add", 0, 0), apply(0, "neg", 0))
	largest := node(2, tree(1, 0, 12))
	most := strings.Repeat("neg(", api.MaxSource/4)
	for i, x := range []struct {
		s  string
		at int
		e  api.Errno
	}{
		{textOf(l, largest), 0, api.OK},
		{textOf(l, node(2, largest)), 0, api.ErrNone},
		{textOf(l, node(1, tree(1, 0, 12), leaf(0))), 0, api.ErrNone},
		{textOf(l, chain(2, 31, leaf(0))), 0, api.OK},
		{textOf(l, chain(2, 32, leaf(0))), 0, api.ErrNone},
		{textOf(l, chain(2, 10000, leaf(0))), 0, api.ErrNone},
		{textOf(l, chain(2, 10000, leaf(0))) + ")", 50003, api.ErrSyntax},
		{most, api.MaxSource, api.ErrSyntax},
		{most + "i", 0, api.ErrSize},
		{strings.Repeat("1", api.MaxSource), 6, api.ErrSyntax},
		{strings.Repeat("a", api.MaxSource), 0, api.ErrSyntax},
		{"in0" + strings.Repeat(" ", api.MaxSource-3), 3, api.ErrSyntax},
		{"in0" + strings.Repeat(" ", api.MaxSource-2), 0, api.ErrSize},
	} {
		got, at, e := notation.Parse(l, 0, x.s)
		if at != x.at || e != x.e || e == api.OK && textOf(l, got) != x.s || e != api.OK && !isEmpty(got) {
			t.Errorf("case %d: %d, %d", i, at, e)
		}
	}
}

// P14.2: a text with as many bytes as permitted, and one with one more.
func TestParseOfLongest(t *testing.T) {
	quotes := func(n int) string { return strings.Repeat("\"", n) }
	l := api.Language{Name: "n", Symbols: []api.Symbol{{Name: "T", Type: api.Text}}}
	for _, s := range []string{quotes(58), quotes(63), quotes(63) + "a"} {
		l.Rules = append(l.Rules, constant(0, value.OfText(s)))
	}
	l.Rules = append(l.Rules, apply(0, "concat", 0, 0))
	// There are 512 constants of 118 bytes, and 511 operators of 10 bytes.
	x := tree(3, 0, 10)
	last := []int{1, 1, 1, 1, 1, 1, 1, 1, 1}
	longest, _ := term.Replace(x, last, leaf(1))
	tooLong, _ := term.Replace(x, last, leaf(2))
	s, e := notation.Print(l, longest)
	if len(s) != api.MaxSource || e != api.OK {
		t.Fatal(len(s), e)
	}
	if got, at, e := notation.Parse(l, 0, s); term.Compare(got, longest) != 0 || at != 0 || e != api.OK {
		t.Error(at, e)
	}
	s, e = notation.Print(l, tooLong)
	if len(s) != api.MaxSource+1 || e != api.OK {
		t.Fatal(len(s), e)
	}
	if got, at, e := notation.Parse(l, 0, s); !isEmpty(got) || at != 0 || e != api.ErrSize {
		t.Error(at, e)
	}
}
