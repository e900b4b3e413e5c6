package strs

import (
	"math"
	"slices"
	"strings"
	"testing"

	"synthesis/api"
)

// shortTexts returns all texts of at most n of the given bytes.
func shortTexts(bytes string, n int) []string {
	all := []string{""}
	last := all
	for range n {
		var next []string
		for _, s := range last {
			for i := range len(bytes) {
				next = append(next, s+bytes[i:i+1])
			}
		}
		all = append(all, next...)
		last = next
	}
	return all
}

// strangeTexts have bytes that are not printable, and more of them than a valid text.
var strangeTexts = []string{"\x00", "\xff\xfe", "a\x80z", "\xe3a\xe3\x81Z", "\u00e9t\u00e9", "\n \t", strings.Repeat("aB \xc3", 100), strings.Repeat(" ", 1000)}

type textCase struct {
	s    string
	k    int
	want string
	e    api.Errno
}

func runTextCases(t *testing.T, name string, f func(string, int) (string, api.Errno), cases []textCase) {
	t.Helper()
	for _, x := range cases {
		if got, e := f(x.s, x.k); got != x.want || e != x.e {
			t.Errorf("%s(%q, %d) = %q, %d, not %q, %d", name, x.s, x.k, got, e, x.want, x.e)
		}
	}
}

// elementOf is the element of l with the index k, which counts from the end if it is negative.
func elementOf(l []string, k int) (string, api.Errno) {
	for i := range l {
		if k == i || k == i-len(l) {
			return l[i], api.OK
		}
	}
	return "", api.ErrRange
}

// P4.1
func TestSlice(t *testing.T) {
	for _, s := range append(strangeTexts, "", "a", "abc") {
		n := len(s)
		for _, from := range []int{math.MinInt, -n, -1, 0, 1, 2, n - 1, n, n + 1, math.MaxInt} {
			for _, to := range []int{math.MinInt, -1, 0, 1, 2, n - 1, n, n + 1, math.MaxInt} {
				want, e := "", api.ErrRange
				if 0 <= from && from <= to && to <= n {
					want, e = string([]byte(s)[from:to]), api.OK
				}
				if got, got2 := Slice(s, from, to); got != want || got2 != e {
					t.Errorf("Slice(%q, %d, %d) = %q, %d", s, from, to, got, got2)
				}
			}
		}
	}
}

// P4.1
func TestChar(t *testing.T) {
	runTextCases(t, "Char", Char, []textCase{
		{"abc", 0, "a", api.OK},
		{"abc", 2, "c", api.OK},
		{"abc", 3, "", api.ErrRange},
		{"abc", -1, "c", api.OK},
		{"abc", -3, "a", api.OK},
		{"abc", -4, "", api.ErrRange},
		{"abc", math.MinInt, "", api.ErrRange},
		{"abc", math.MaxInt, "", api.ErrRange},
		{"", 0, "", api.ErrRange},
		{"", -1, "", api.ErrRange},
		{"\u00e9", 0, "\xc3", api.OK},
		{"\u00e9", -1, "\xa9", api.OK},
	})
}

// P4.1
func TestWord(t *testing.T) {
	runTextCases(t, "Word", Word, []textCase{
		{"ada  lovelace ", 0, "ada", api.OK},
		{"ada  lovelace ", 1, "lovelace", api.OK},
		{"ada  lovelace ", 2, "", api.ErrRange},
		{"ada  lovelace ", -1, "lovelace", api.OK},
		{"ada  lovelace ", -2, "ada", api.OK},
		{"ada  lovelace ", -3, "", api.ErrRange},
		{"", 0, "", api.ErrRange},
		{"", -1, "", api.ErrRange},
		{"   ", 0, "", api.ErrRange},
		{"a\tb\n \x00\xff", 0, "a\tb\n", api.OK},
		{"a\tb\n \x00\xff", -1, "\x00\xff", api.OK},
		{"\u00a0 x", 0, "\u00a0", api.OK},
		{"a", math.MinInt, "", api.ErrRange},
		{"a", math.MaxInt, "", api.ErrRange},
	})
	for _, s := range append(strangeTexts, shortTexts("a \xe3\x81", 6)...) {
		var words []string
		for _, piece := range strings.Split(s, " ") {
			if piece != "" {
				words = append(words, piece)
			}
		}
		for k := -len(words) - 1; k <= len(words); k++ {
			want, wantError := elementOf(words, k)
			if got, e := Word(s, k); got != want || e != wantError {
				t.Fatalf("Word(%q, %d) = %q, %d, not %q, %d", s, k, got, e, want, wantError)
			}
		}
	}
}

// P4.3
func TestFind(t *testing.T) {
	least := func(s, t string) int {
		for i := range len(s) + 1 {
			if i+len(t) <= len(s) && s[i:i+len(t)] == t {
				return i
			}
		}
		return -1
	}
	texts := append(shortTexts("ab", 5), strangeTexts...)
	for _, s := range texts {
		for _, x := range append(shortTexts("ab", 3), "c", "\x80", "\xff", "\xe3\x81", strings.Repeat(" ", 1000)) {
			if got := Find(s, x); got != least(s, x) {
				t.Fatalf("Find(%q, %q) = %d, not %d", s, x, got, least(s, x))
			}
		}
	}
}

// P4.6 and P4.7
func TestSplits(t *testing.T) {
	if l := Splits(""); !slices.Equal(l, [][2]string{{"", ""}}) {
		t.Errorf("Splits of nothing: %q", l)
	}
	if l := Splits("ab"); !slices.Equal(l, [][2]string{{"", "ab"}, {"a", "b"}, {"ab", ""}}) {
		t.Errorf("Splits of ab: %q", l)
	}
	for _, s := range strangeTexts {
		l := Splits(s)
		if len(l) != len(s)+1 {
			t.Errorf("Splits(%q) has %d pairs", s, len(l))
		}
		for i, pair := range l {
			if len(pair[0]) != i || pair[0]+pair[1] != s {
				t.Errorf("Splits(%q), pair %d: %q", s, i, pair)
			}
		}
	}
	first := Splits("ab")
	first[0][0] = "x"
	if second := Splits("ab"); second[0][0] != "" {
		t.Errorf("Splits shares memory: %q", second)
	}
}
