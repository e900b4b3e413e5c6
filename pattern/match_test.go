package pattern_test

import (
	"strings"
	"testing"

	"synthesis/api"
	"synthesis/pattern"
)

func checkMatch(t *testing.T, p, s string, want bool) {
	t.Helper()
	if got, e := pattern.Match(p, s); got != want || e != api.OK {
		t.Errorf("Match(%q, %q) is %v, %d, not %v", p, s, got, e, want)
	}
}

type texts []string

// P5.3
func TestMatch(t *testing.T) {
	for _, x := range []struct {
		p       string
		yes, no texts
	}{
		{"(a|b)*", texts{"", "a", "b", "abba", "bbbb"}, texts{"c", "abc", "cab", " "}},
		{"()", texts{""}, texts{"a", "()", " "}},
		{"[]", nil, texts{"", "a", "[]"}},
		{"a[]", nil, texts{"", "a", "aa", "a[]"}},
		{"a[]|b", texts{"b"}, texts{"", "a", "ab"}},
		{"[]*", texts{""}, texts{"a"}},
		{"()*", texts{""}, texts{"a"}},
		{"[^ -~]", nil, texts{"", "a", "\n", "\x80"}},
		{"[^a]", texts{"b", " ", "~", "-"}, texts{"", "a", "bb"}},
		{".", texts{"a", ".", "~", " "}, texts{"", "ab"}},
		{`a\*`, texts{"a*"}, texts{"a", "aa", `a\*`}},
		{"[(*)]*", texts{"", "(*)", "**"}, texts{"a"}},
		{"a*b*", texts{"", "a", "b", "aabb"}, texts{"ba", "aba"}},
		{"ab|cd", texts{"ab", "cd"}, texts{"", "abd", "acd", "a", "abcd"}},
		{"a(b|c)d", texts{"abd", "acd"}, texts{"ad", "abcd", "ab", "d"}},
		{"(ab)*", texts{"", "ab", "abab"}, texts{"a", "aba", "ba"}},
		{"(a*)*", texts{"", "a", "aaa"}, texts{"b"}},
		{"(a*b)*", texts{"", "b", "ab", "abaab"}, texts{"a", "aba"}},
		{"(()|a)(()|b)", texts{"", "a", "b", "ab"}, texts{"ba", "aa"}},
		{"[a-cx]", texts{"a", "b", "c", "x"}, texts{"d", "-", "w", "ab"}},
		{"A", texts{"A"}, texts{"a"}},
	} {
		for _, s := range x.yes {
			checkMatch(t, x.p, s, true)
		}
		for _, s := range x.no {
			checkMatch(t, x.p, s, false)
		}
	}
}

// P5.3: bytes outside the alphabet, and long texts.
func TestMatchStrangeTexts(t *testing.T) {
	for b := range 256 {
		s := string([]byte{byte(b)})
		checkMatch(t, ".", s, inAlphabet(byte(b)))
		checkMatch(t, "[^a]", s, inAlphabet(byte(b)) && b != 'a')
		checkMatch(t, ".*", "ab"+s+"c", inAlphabet(byte(b)))
	}
	checkMatch(t, ".*", "\u00e9", false)
	checkMatch(t, "..", "\u00e9", false)
	checkMatch(t, "(a|b)*", strings.Repeat("ab", 100000), true)
	checkMatch(t, "(a|b)*", strings.Repeat("ab", 100000)+"c", false)
	checkMatch(t, "(a*)*b", strings.Repeat("a", 1000), false)
	checkMatch(t, strings.Repeat("a", 40), strings.Repeat("a", 40), true)
	checkMatch(t, strings.Repeat("a", 40), strings.Repeat("a", 39), false)
	checkMatch(t, strings.Repeat("a", 40), strings.Repeat("a", 41), false)
	checkMatch(t, ".*a...................................", strings.Repeat("b", 100)+"a"+strings.Repeat("c", 35), true)
	checkMatch(t, ".*a...................................", strings.Repeat("b", 100)+"a"+strings.Repeat("c", 34), false)
}

// P5.3: the errors are those of Parse.
func TestMatchErrors(t *testing.T) {
	for _, x := range []struct {
		p string
		e api.Errno
	}{{"", api.ErrSize}, {strings.Repeat("a", 41), api.ErrSize}, {"(", api.ErrSyntax}, {"a**", api.ErrSyntax}, {"\n", api.ErrSyntax}} {
		for _, s := range []string{"", "a", "\xff"} {
			if got, e := pattern.Match(x.p, s); got || e != x.e {
				t.Errorf("Match(%q, %q) is %v, %d, not %d", x.p, s, got, e, x.e)
			}
		}
	}
}

// P5.3: all short patterns.
func TestMatchShortPatterns(t *testing.T) {
	patterns, trees := patternsUpTo("()[]^.*|ab", 5)
	all := textsUpTo("abc", 3)
	for i, p := range patterns {
		for _, s := range all {
			if got, e := pattern.Match(p, s); got != accepts(trees[i], s) || e != api.OK {
				t.Fatalf("Match(%q, %q) is %v, %d", p, s, got, e)
			}
		}
	}
}

// P5.3: trees with more levels.
func TestMatchSmallTrees(t *testing.T) {
	all := textsUpTo("a*z", 3)
	for i, x := range smallTrees(2) {
		p, e := pattern.Print(x)
		if i%5 > 0 || e != api.OK {
			continue
		}
		for _, s := range all {
			if got, e := pattern.Match(p, s); got != accepts(x, s) || e != api.OK {
				t.Fatalf("Match(%q, %q) is %v, %d", p, s, got, e)
			}
		}
	}
}
