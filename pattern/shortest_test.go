package pattern_test

import (
	"strings"
	"testing"

	"synthesis/api"
	"synthesis/pattern"
)

// P5.7
func TestShortest(t *testing.T) {
	for _, x := range []struct {
		p, want string
		e       api.Errno
	}{
		{"a*b|ba", "b", api.OK}, {"a", "a", api.OK}, {"()", "", api.OK}, {"a*", "", api.OK}, {"[]*", "", api.OK}, {"aa*", "a", api.OK}, {".", " ", api.OK}, {"...", "   ", api.OK}, {"[^ ]", "!", api.OK}, {"[^ -}]", "~", api.OK}, {"~|ab", "~", api.OK}, {"ba|ab", "ab", api.OK}, {"bca|bac|bab", "bab", api.OK}, {"a(c|d)|ab[]|b.", "ac", api.OK}, {"(b|ab)(b|aa)", "bb", api.OK}, {"ab|[^a]c", " c", api.OK}, {"zc|a[]|(b|z)b", "bb", api.OK}, {"[]|a*aaa", "aaa", api.OK}, {a40, a40, api.OK},
		{"(a|b)c|(a|bd)b", "ab", api.OK}, {"(.|..)(b|aa)", " b", api.OK}, {"(ab|a)(c|bcd)", "ac", api.OK}, {".*a...................................", "a" + strings.Repeat(" ", 35), api.OK},
		{"[]", "", api.ErrNone}, {"a[]", "", api.ErrNone}, {"[]a", "", api.ErrNone}, {"a*[]b*", "", api.ErrNone}, {"[^ -~]", "", api.ErrNone}, {"[]|a[]", "", api.ErrNone},
		{"", "", api.ErrSize}, {a41, "", api.ErrSize}, {"(", "", api.ErrSyntax}, {"a**", "", api.ErrSyntax},
	} {
		got, e := pattern.Shortest(x.p)
		checkText(t, "Shortest("+x.p+")", got, e, x.want, x.e)
	}
}

// P5.7: short patterns, and all texts in their order. The least byte stands for all those that the patterns do not name.
func TestShortestOfShortPatterns(t *testing.T) {
	patterns, trees := patternsUpTo("()[]^.*|ab", 4)
	all := textsUpTo(" ()*.[^ab|", 4)
	for i, p := range patterns {
		want, wantError := "", api.ErrNone
		for _, s := range all {
			if accepts(trees[i], s) {
				want, wantError = s, api.OK
				break
			}
		}
		got, e := pattern.Shortest(p)
		if got != want || e != wantError {
			t.Fatalf("Shortest(%q) is %q, %d, not %q, %d", p, got, e, want, wantError)
		}
	}
}

// P5.9
func TestShortestIsMatched(t *testing.T) {
	for i, x := range smallTrees(2) {
		p, e := pattern.Print(x)
		if i%5 > 0 || e != api.OK {
			continue
		}
		s, e := pattern.Shortest(p)
		if e == api.OK {
			checkMatch(t, p, s, true)
		}
		for length := range len(s) {
			checkWords(t, p, length, 0, api.OK)
		}
	}
}
