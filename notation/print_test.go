package notation_test

import (
	"math"
	"strings"
	"testing"

	"synthesis/api"
	"synthesis/grammar"
	"synthesis/notation"
	"synthesis/value"
)

// P14.1: terms of all kinds of rules.
func TestPrint(t *testing.T) {
	l := everything()
	for _, x := range []struct {
		t    api.Term
		want string
	}{
		{leaf(0), `true`},
		{leaf(1), `false`},
		{leaf(2), `in0`},
		{leaf(3), `-12`},
		{leaf(4), `0`},
		{leaf(5), `1000000`},
		{leaf(6), `in1`},
		{leaf(7), `in2`},
		{leaf(8), `"a\"b\\"`},
		{leaf(9), `""`},
		{leaf(11), `0x0f`},
		{leaf(12), `0x00`},
		{leaf(13), `[1, -2]`},
		{leaf(14), `[]`},
		{leaf(15), `{"", "x"}`},
		{leaf(17), `in3`},
		{leaf(18), `<{"a", "b"}, {"c", "d"}>`},
		{leaf(20), `r"[a-z]*"`},
		{leaf(21), `r"\"\\)"`},
		{api.Term{Rule: 2, Args: []api.Term{}}, `in0`},
		{node(22, leaf(2), leaf(3)), `less(in0, -12)`},
		{node(24, node(24, leaf(1))), `not(not(false))`},
		{node(23, leaf(11), leaf(12)), `eqbits(0x0f, 0x00)`},
		{node(25, leaf(13)), `sum([1, -2])`},
		{node(26, node(27, leaf(6), leaf(20), leaf(4)), leaf(2), node(25, leaf(14))), `slice(extract(in1, r"[a-z]*", 0), in0, sum([]))`},
		{node(29, node(28, leaf(17), leaf(4)), leaf(10)), `join(row(in3, 0), "S = in0), (true, ")`},
	} {
		if s, e := notation.Print(l, x.t); s != x.want || e != api.OK {
			t.Errorf("%q, %d, not %q", s, e, x.want)
		}
	}
	if s, e := notation.Print(sums(), node(1, leaf(0), leaf(0))); s != "add(in0, in0)" || e != api.OK {
		t.Errorf("%q, %d", s, e)
	}
}

// chain returns the term with the rule above the term bottom on as many levels as wanted.
func chain(rule, levels int, bottom api.Term) api.Term {
	for range levels {
		bottom = node(rule, bottom)
	}
	return bottom
}

// tree returns the term with a rule of two arguments at all levels but the last one, and the rule last there.
func tree(rule, last, levels int) api.Term {
	if levels == 1 {
		return leaf(last)
	}
	return node(rule, tree(rule, last, levels-1), tree(rule, last, levels-1))
}

// P14.1: errors in their order, and the limits.
func TestPrintErrors(t *testing.T) {
	l := everything()
	large := node(22, tree(22, 2, 13), leaf(2))
	cycle := make([]api.Term, 1)
	cycle[0] = node(24, cycle...)
	for i, x := range []struct {
		t    api.Term
		want api.Errno
	}{
		{leaf(-1), api.ErrRange},
		{leaf(30), api.ErrRange},
		{leaf(math.MinInt), api.ErrRange},
		{leaf(math.MaxInt), api.ErrRange},
		{node(-1, large), api.ErrRange},
		{large, api.ErrSize},
		{cycle[0], api.ErrSize},
		{chain(24, 32, leaf(0)), api.ErrSize},
		{chain(24, 31, leaf(0)), api.OK},
		{node(24, leaf(30)), api.ErrRange},
		{node(24, leaf(2)), api.ErrType},
		{node(2, leaf(2)), api.ErrForm},
		{node(22, leaf(2)), api.ErrForm},
		{node(22, leaf(2), leaf(3), leaf(4)), api.ErrForm},
	} {
		if s, e := notation.Print(l, x.t); e != x.want || (s == "") != (e != api.OK) {
			t.Errorf("case %d: %q, %d, not %d", i, s, e, x.want)
		}
	}
	for _, l := range invalid() {
		for _, x := range []api.Term{leaf(0), leaf(-1), large} {
			if s, e := notation.Print(l, x); s != "" || e != grammar.Check(l) {
				t.Errorf("%v: %q, %d", l, s, e)
			}
		}
	}
}

// P14.1: a term with as many rules as permitted.
func TestPrintOfLarge(t *testing.T) {
	l := numbers("S", input(0, 0), apply(0, "add", 0, 0), apply(0, "neg", 0))
	x := node(2, tree(1, 0, 12))
	s, e := notation.Print(l, x)
	if e != api.OK || strings.Count(s, "in0") != 2048 || strings.Count(s, "add(") != 2047 || s != textOf(l, x) {
		t.Error(len(s), e)
	}
	if s, e := notation.Print(l, node(2, x)); s != "" || e != api.ErrSize {
		t.Error(len(s), e)
	}
}

// P14.3: the example, and a language with everything.
func TestPrintLanguage(t *testing.T) {
	const everythingText = `language Every-1
inputs int text text table
symbol a-bool bool
symbol a-int int
symbol a-text text
symbol a-bits bits
symbol a-ints ints
symbol a-texts texts
symbol a-table table
symbol a-pattern pattern
rule a-bool = true
rule a-bool = false
rule a-int = in0
rule a-int = -12
rule a-int = 0
rule a-int = 1000000
rule a-text = in1
rule a-text = in2
rule a-text = "a\"b\\"
rule a-text = ""
rule a-text = "S = in0), (true, "
rule a-bits = 0x0f
rule a-bits = 0x00
rule a-ints = [1, -2]
rule a-ints = []
rule a-texts = {"", "x"}
rule a-texts = {}
rule a-table = in3
rule a-table = <{"a", "b"}, {"c", "d"}>
rule a-table = <>
rule a-pattern = r"[a-z]*"
rule a-pattern = r"\"\\)"
rule a-bool = less(a-int, a-int)
rule a-bool = eqbits(a-bits, a-bits)
rule a-bool = not(a-bool)
rule a-int = sum(a-ints)
rule a-text = slice(a-text, a-int, a-int)
rule a-text = extract(a-text, a-pattern, a-int)
rule a-texts = row(a-table, a-int)
rule a-text = join(a-texts, a-text)
`
	noInputs := api.Language{Name: "N", Symbols: []api.Symbol{{Name: "A1", Type: api.Bits}}}
	for _, x := range []struct {
		l    api.Language
		want string
	}{
		{sums(), "language n\ninputs int\nsymbol S int\nrule S = in0\nrule S = add(S, S)\n"},
		{everything(), everythingText},
		{noInputs, "language N\ninputs\nsymbol A1 bits\n"},
		{misleading(), "language language\ninputs int bool\nsymbol in0 int\nsymbol true bool\nsymbol add int\nsymbol rule int\nsymbol r text\n" +
			"rule in0 = in0\nrule in0 = add(add, rule)\nrule true = in1\nrule add = ifint(true, in0, rule)\nrule rule = 3\nrule true = less(in0, in0)\nrule r = show(in0)\n"},
	} {
		if s, e := notation.PrintLanguage(x.l); s != x.want || e != api.OK {
			t.Errorf("%q, %d, not %q", s, e, x.want)
		}
	}
	for _, l := range invalid() {
		if s, e := notation.PrintLanguage(l); s != "" || e != grammar.Check(l) {
			t.Errorf("%v: %q, %d", l, s, e)
		}
	}
}

// DOC.md, rule 5: the arguments stay as they are.
func TestPrintChangesNothing(t *testing.T) {
	l := everything()
	x := node(29, node(28, leaf(17), leaf(4)), leaf(10))
	notation.Print(l, x)
	notation.PrintLanguage(l)
	if !grammar.Same(l, everything()) || textOf(l, x) != textOf(everything(), node(29, node(28, leaf(17), leaf(4)), leaf(10))) {
		t.Error(l, x)
	}
	if !value.Equal(l.Rules[18].Const, value.OfTable([][]string{{"a", "b"}, {"c", "d"}})) {
		t.Error(l.Rules[18])
	}
}
