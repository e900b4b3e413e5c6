package position_test

import (
	"math"
	"slices"
	"strings"
	"testing"

	"synthesis/api"
	"synthesis/pattern"
	"synthesis/position"
)

// matchesOf finds the matches as the chapter defines them.
func matchesOf(p, s string) [][2]int {
	var all [][2]int
search:
	for from := 0; from < len(s); from++ {
		for to := len(s); to > from; to-- {
			if ok, _ := pattern.Match(p, s[from:to]); ok {
				all = append(all, [2]int{from, to})
				from = to - 1
				continue search
			}
		}
	}
	return all
}

func checkMatches(t *testing.T, p, s string, want [][2]int) {
	t.Helper()
	if got, e := position.Matches(p, s); !slices.Equal(got, want) || e != api.OK {
		t.Errorf("Matches(%q, %q) is %v, %d, not %v", p, s, got, e, want)
	}
	if got, e := position.Count(p, s); got != len(want) || e != api.OK {
		t.Errorf("Count(%q, %q) is %d, %d, not %d", p, s, got, e, len(want))
	}
}

// checkNumbered checks Start, End and Extract with the number k. The match nil is none.
func checkNumbered(t *testing.T, p, s string, k int, match *[2]int) {
	t.Helper()
	var start, end int
	var text string
	want := api.ErrNone
	if match != nil {
		start, end, text, want = match[0], match[1], s[match[0]:match[1]], api.OK
	}
	if got, e := position.Start(p, s, k); got != start || e != want {
		t.Errorf("Start(%q, %q, %d) is %d, %d, not %d, %d", p, s, k, got, e, start, want)
	}
	if got, e := position.End(p, s, k); got != end || e != want {
		t.Errorf("End(%q, %q, %d) is %d, %d, not %d, %d", p, s, k, got, e, end, want)
	}
	if got, e := position.Extract(p, s, k); got != text || e != want {
		t.Errorf("Extract(%q, %q, %d) is %q, %d, not %q, %d", p, s, k, got, e, text, want)
	}
}

func checkErase(t *testing.T, p, s, want string) {
	t.Helper()
	if got, e := position.Erase(p, s); got != want || e != api.OK {
		t.Errorf("Erase(%q, %q) is %q, %d, not %q", p, s, got, e, want)
	}
}

// checkAll checks all functions for a pattern and a text with these matches.
func checkAll(t *testing.T, p, s string, want [][2]int) {
	t.Helper()
	checkMatches(t, p, s, want)
	rest, end := "", 0
	for i := range want {
		checkNumbered(t, p, s, i, &want[i])
		checkNumbered(t, p, s, i-len(want), &want[i])
		rest += s[end:want[i][0]]
		end = want[i][1]
	}
	checkErase(t, p, s, rest+s[end:])
	for _, k := range []int{len(want), -len(want) - 1, math.MinInt, math.MaxInt} {
		checkNumbered(t, p, s, k, nil)
	}
}

const digits = "[0-9][0-9]*"

// P6.1, P6.2 and P6.3
func TestMatches(t *testing.T) {
	for _, x := range []struct {
		p, s string
		want [][2]int
	}{
		{digits, "a12b3", [][2]int{{1, 3}, {4, 5}}}, {"a*", "bb", nil}, {"a*", "baa", [][2]int{{1, 3}}}, {"a*", "abaab", [][2]int{{0, 1}, {2, 4}}},
		{"a", "", nil}, {"a*", "", nil}, {"()", "abc", nil}, {"()*", "abc", nil}, {"[]", "abc", nil}, {"[]*", "abc", nil}, {".", "abc", [][2]int{{0, 1}, {1, 2}, {2, 3}}}, {".*", "abc", [][2]int{{0, 3}}},
		{"aa", "aaaaa", [][2]int{{0, 2}, {2, 4}}}, {"aba", "ababa", [][2]int{{0, 3}}}, {"a|ab|b", "abab", [][2]int{{0, 2}, {2, 4}}}, {"a|aaa", "aaaaa", [][2]int{{0, 3}, {3, 4}, {4, 5}}}, {"a|a*b", "aaa", [][2]int{{0, 1}, {1, 2}, {2, 3}}}, {"a|a*b", "aaabaa", [][2]int{{0, 4}, {4, 5}, {5, 6}}},
		{"ab*c|b", "abbb", [][2]int{{1, 2}, {2, 3}, {3, 4}}}, {"b.", "abcb", [][2]int{{1, 3}}}, {"a()|()b", "cab", [][2]int{{1, 2}, {2, 3}}}, {"a[]|b", "aab", [][2]int{{2, 3}}},
		{".*", "ab\ncd", [][2]int{{0, 2}, {3, 5}}}, {".", "\xff a\x80", [][2]int{{1, 2}, {2, 3}}}, {"[^a]*", "\u00e9b\x00c", [][2]int{{2, 3}, {4, 5}}}, {"a.b", "a\nba b", [][2]int{{3, 6}}},
	} {
		checkAll(t, x.p, x.s, x.want)
	}
	checkErase(t, digits, "a12b3", "ab")
	checkErase(t, "a", "aaa", "")
	checkErase(t, "a*", "", "")
	checkErase(t, "ab", "aabb", "ab")
}

// The error of Parse comes before ErrNone.
func TestErrors(t *testing.T) {
	for _, x := range []struct {
		p    string
		want api.Errno
	}{{"", api.ErrSize}, {strings.Repeat("a", 41), api.ErrSize}, {strings.Repeat("(", 41), api.ErrSize}, {"(", api.ErrSyntax}, {"a**", api.ErrSyntax}, {"\n", api.ErrSyntax}, {"a\x00", api.ErrSyntax}} {
		for _, s := range []string{"", "a", "aaa", "\xff"} {
			if l, e := position.Matches(x.p, s); len(l) != 0 || e != x.want {
				t.Errorf("Matches(%q, %q) is %v, %d", x.p, s, l, e)
			}
			if n, e := position.Count(x.p, s); n != 0 || e != x.want {
				t.Errorf("Count(%q, %q) is %d, %d", x.p, s, n, e)
			}
			if rest, e := position.Erase(x.p, s); rest != "" || e != x.want {
				t.Errorf("Erase(%q, %q) is %q, %d", x.p, s, rest, e)
			}
			for _, k := range []int{0, 1, -1, math.MinInt, math.MaxInt} {
				start, e := position.Start(x.p, s, k)
				end, f := position.End(x.p, s, k)
				text, g := position.Extract(x.p, s, k)
				if start != 0 || end != 0 || text != "" || e != x.want || f != x.want || g != x.want {
					t.Errorf("%q, %q, %d: %d, %d, %q, %d, %d, %d", x.p, s, k, start, end, text, e, f, g)
				}
			}
		}
	}
}

func shortTexts(bytes string, n int) []string {
	all := []string{""}
	last := all
	for range n {
		var next []string
		for _, s := range last {
			for i := range len(bytes) {
				next = append(next, s+bytes[i:i+1])
			}
		}
		all = append(all, next...)
		last = next
	}
	return all
}

// P6.1 to P6.4: short patterns and short texts.
func TestShortPatterns(t *testing.T) {
	all := shortTexts("abc\n", 4)
	for _, p := range shortTexts("()*|.ab", 4)[1:] {
		if _, _, e := pattern.Parse(p); e != api.OK {
			continue
		}
		for i, s := range all {
			if i%3 == len(p)%3 {
				checkMatches(t, p, s, matchesOf(p, s))
			}
		}
	}
}

// P6.1 to P6.4: patterns for which a match can go on after some of its beginnings.
func TestLongestMatches(t *testing.T) {
	all := shortTexts("ab", 9)
	for _, p := range []string{"a|ab*a", "(ab)*a*b", "b|(a|b)*aab", "aa|bb|abab", "a(b|ba*b)", "(aa)*b|a", "()|a(ba)*", "(a|b)(a|b)(a|b)|bb", "(a*b*)*a", "a*b|b*a|abba", "b*a[]|ab|bab*"} {
		for _, s := range all {
			checkAll(t, p, s, matchesOf(p, s))
		}
	}
}

// Texts may be long: no part of them is searched again and again.
func TestLongTexts(t *testing.T) {
	const n = 300000
	long := strings.Repeat("a", n)
	for _, x := range []struct {
		p    string
		want int
	}{{"a*b", 0}, {"a|a*b", n}, {"a*", 1}, {"aa", n / 2}, {"(a|aa)*(b|[^a])", 0}} {
		if got, e := position.Count(x.p, long); got != x.want || e != api.OK {
			t.Errorf("Count(%q) is %d, %d, not %d", x.p, got, e, x.want)
		}
	}
	checkNumbered(t, "ab", long+"b", 0, &[2]int{n - 1, n + 1})
	checkErase(t, "a*b", long+"b"+long, long)
}

// Rule 5: a result is new memory.
func TestMatchesGivesNewMemory(t *testing.T) {
	first, _ := position.Matches("a", "aba")
	first[0] = [2]int{7, 8}
	checkMatches(t, "a", "aba", [][2]int{{0, 1}, {2, 3}})
}
