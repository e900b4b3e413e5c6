package pattern_test

import (
	"strings"
	"testing"

	"synthesis/api"
	"synthesis/pattern"
)

var (
	a38 = strings.Repeat("a", 38)
	a39 = strings.Repeat("a", 39)
	a40 = strings.Repeat("a", 40)
	a41 = strings.Repeat("a", 41)
)

// P5.4
func TestLiteral(t *testing.T) {
	for _, x := range []struct{ s, want string }{
		{"", "()"}, {"a", "a"}, {"a.b", `a\.b`}, {`()[].*|\`, `\(\)\[\]\.\*\|\\`}, {"^-{}+?$ ~", "^-{}+?$ ~"},
		{a40, a40}, {a41, ""}, {a39 + ".", ""}, {a38 + ".", a38 + `\.`}, {strings.Repeat("*", 20), strings.Repeat(`\*`, 20)}, {strings.Repeat("*", 21), ""}, {strings.Repeat("*", 40), ""},
		{"\n", ""}, {"a\x00", ""}, {"\x7f", ""}, {"\x1f", ""}, {"\u00e9", ""}, {a39 + "\n", ""}, {a40 + "\n", ""}, {strings.Repeat("x", 100000), ""},
	} {
		if got := pattern.Literal(x.s); got != x.want {
			t.Errorf("Literal(%q) is %q, not %q", x.s, got, x.want)
		}
	}
	for b := range 256 {
		s := string([]byte{byte(b)})
		if got := pattern.Literal(s); (got != "") != inAlphabet(byte(b)) {
			t.Errorf("Literal(%q) is %q", s, got)
		}
	}
}

// P5.9: Literal of a text matches this text alone.
func TestLiteralMatchesTextAlone(t *testing.T) {
	all := textsUpTo("a.*|", 4)
	for _, s := range all {
		p := pattern.Literal(s)
		for _, x := range all {
			checkMatch(t, p, x, x == s)
		}
		if n, e := pattern.Words(p, len(s)); n != 1 || e != api.OK {
			t.Errorf("Words of %q: %d, %d", p, n, e)
		}
	}
}

func checkText(t *testing.T, call string, got string, e api.Errno, want string, wantError api.Errno) {
	t.Helper()
	if got != want || e != wantError {
		t.Errorf("%s is %q, %d, not %q, %d", call, got, e, want, wantError)
	}
}

// P5.5
func TestConcat(t *testing.T) {
	for _, x := range []struct {
		p, q, want string
		e          api.Errno
	}{
		{"a", "b", "ab", api.OK}, {"a|b", "c", "(a|b)c", api.OK}, {"a", "b|c", "a(b|c)", api.OK}, {"a|b", "c|d", "(a|b)(c|d)", api.OK}, {"ab", "cd", "abcd", api.OK}, {"a*", "b*", "a*b*", api.OK},
		{"()", "[]", "()[]", api.OK}, {"(a|b)", "c", "((a|b))c", api.OK}, {"a", "(b|c)*", "a(b|c)*", api.OK}, {"[|]", "a", "[|]a", api.OK}, {`\|`, "a", `\|a`, api.OK}, {"a|bc", "(d)", "(a|bc)(d)", api.OK},
		{a39, "b", a39 + "b", api.OK}, {"b", a39, "b" + a39, api.OK}, {a40, "b", "", api.ErrSize}, {a40, a40, "", api.ErrSize}, {"a|b", a38, "", api.ErrSize}, {"a|b", strings.Repeat("a", 35), "(a|b)" + strings.Repeat("a", 35), api.OK}, {"a|b", strings.Repeat("a", 36), "", api.ErrSize}, {strings.Repeat("a", 36), "a|b", "", api.ErrSize},
		{"", "a", "", api.ErrSize}, {"a", "", "", api.ErrSize}, {"(", "a", "", api.ErrSyntax}, {"a", "(", "", api.ErrSyntax}, {"", "(", "", api.ErrSize}, {"(", "", "", api.ErrSyntax}, {a41, ")", "", api.ErrSize}, {a40, ")", "", api.ErrSyntax}, {")", a41, "", api.ErrSyntax}, {"a", "*", "", api.ErrSyntax}, {"(a", "b)", "", api.ErrSyntax},
	} {
		got, e := pattern.Concat(x.p, x.q)
		checkText(t, "Concat("+x.p+", "+x.q+")", got, e, x.want, x.e)
	}
}

// P5.5
func TestAlternate(t *testing.T) {
	for _, x := range []struct {
		p, q, want string
		e          api.Errno
	}{
		{"a", "b", "a|b", api.OK}, {"a|b", "c", "a|b|c", api.OK}, {"a", "b|c", "a|b|c", api.OK}, {"(a|b)", "c*", "(a|b)|c*", api.OK}, {"()", "[]", "()|[]", api.OK}, {"ab", "cd", "ab|cd", api.OK},
		{a38, "b", a38 + "|b", api.OK}, {"b", a38, "b|" + a38, api.OK}, {a39, "b", "", api.ErrSize}, {a40, a40, "", api.ErrSize},
		{"", "a", "", api.ErrSize}, {"a", "", "", api.ErrSize}, {"(", "a", "", api.ErrSyntax}, {"a", "(", "", api.ErrSyntax}, {"", "(", "", api.ErrSize}, {"(", "", "", api.ErrSyntax}, {a40, ")", "", api.ErrSyntax}, {"(a", "b)", "", api.ErrSyntax},
	} {
		got, e := pattern.Alternate(x.p, x.q)
		checkText(t, "Alternate("+x.p+", "+x.q+")", got, e, x.want, x.e)
	}
}

// P5.5
func TestStar(t *testing.T) {
	for _, x := range []struct {
		p, want string
		e       api.Errno
	}{
		{"a", "a*", api.OK}, {"ab", "(ab)*", api.OK}, {"a|b", "(a|b)*", api.OK}, {"a*", "(a*)*", api.OK}, {"()", "()*", api.OK}, {"[]", "[]*", api.OK}, {".", ".*", api.OK}, {"[a-z]", "[a-z]*", api.OK}, {`\*`, `\**`, api.OK},
		{"(a)", "(a)*", api.OK}, {"(())", "(())*", api.OK}, {"(ab)", "((ab))*", api.OK}, {"(a|b)", "((a|b))*", api.OK}, {"(a)*", "((a)*)*", api.OK}, {"[^ -~]", "[^ -~]*", api.OK}, {"(a)(b)", "((a)(b))*", api.OK},
		{strings.Repeat("a", 37), "(" + strings.Repeat("a", 37) + ")*", api.OK}, {a38, "", api.ErrSize}, {a40, "", api.ErrSize}, {"[" + strings.Repeat("a", 37) + "]", "[" + strings.Repeat("a", 37) + "]*", api.OK}, {"[" + a38 + "]", "", api.ErrSize},
		{"", "", api.ErrSize}, {a41, "", api.ErrSize}, {"(", "", api.ErrSyntax}, {"*", "", api.ErrSyntax}, {"(" + a39, "", api.ErrSyntax},
	} {
		got, e := pattern.Star(x.p)
		checkText(t, "Star("+x.p+")", got, e, x.want, x.e)
	}
}

// P5.9: the combinations match the concatenations, the union and the repetitions.
func TestCombinationsMatch(t *testing.T) {
	patterns, trees := patternsUpTo("()[].*|ab", 3)
	all := textsUpTo("abc", 3)
	for i, p := range patterns {
		star, e := pattern.Star(p)
		compareLanguages(t, star, e, rep(trees[i]), all)
		for k, q := range patterns {
			if (i+k)%3 > 0 {
				continue
			}
			both, e := pattern.Concat(p, q)
			compareLanguages(t, both, e, cat(trees[i], trees[k]), all)
			either, e := pattern.Alternate(p, q)
			compareLanguages(t, either, e, alt(trees[i], trees[k]), all)
		}
	}
}

func compareLanguages(t *testing.T, p string, e api.Errno, want tree, all []string) {
	t.Helper()
	if e != api.OK {
		t.Fatalf("the error %d", e)
	}
	for _, s := range all {
		if got, e := pattern.Match(p, s); got != accepts(want, s) || e != api.OK {
			t.Fatalf("Match(%q, %q) is %v, %d", p, s, got, e)
		}
	}
}
