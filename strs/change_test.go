package strs

import (
	"math"
	"strings"
	"testing"

	"synthesis/api"
)

// mapBytes returns s with each byte c from first to last moved by distance.
func mapBytes(s string, first, last byte, distance int) string {
	changed := []byte(s)
	for i, c := range changed {
		if first <= c && c <= last {
			changed[i] = byte(int(c) + distance)
		}
	}
	return string(changed)
}

// P4.2
func TestUpperAndLower(t *testing.T) {
	texts := append(strangeTexts, "", "aZ[{1 z`", "AZ[@1 a")
	for c := range 256 {
		for _, around := range []string{"", "x", "\xe3", "\xe3\x81", "\u00e9", "Q"} {
			texts = append(texts, around+string([]byte{byte(c)})+around)
		}
	}
	for _, s := range texts {
		if got, want := Upper(s), mapBytes(s, 'a', 'z', 'A'-'a'); got != want {
			t.Errorf("Upper(%q) is %q, not %q", s, got, want)
		}
		if got, want := Lower(s), mapBytes(s, 'A', 'Z', 'a'-'A'); got != want {
			t.Errorf("Lower(%q) is %q, not %q", s, got, want)
		}
	}
	if Upper("aZ[{1") != "AZ[{1" || Lower("aZ[@1") != "az[@1" {
		t.Error(Upper("aZ[{1"), Lower("aZ[@1"))
	}
}

// P4.2
func TestTrim(t *testing.T) {
	for s, want := range map[string]string{
		"": "", " ": "", "    ": "", "a": "a", " a": "a", "a ": "a", "  a  b ": "a  b",
		"\ta\n": "\ta\n", " \t ": "\t", "\u00a0a ": "\u00a0a", " \xff \x00 ": "\xff \x00",
	} {
		if Trim(s) != want {
			t.Errorf("Trim(%q) is %q, not %q", s, Trim(s), want)
		}
	}
}

// P4.7
func TestChangesOfChanges(t *testing.T) {
	for _, s := range append(strangeTexts, shortTexts("aZ \xe3", 4)...) {
		if len(Upper(s)) != len(s) || len(Lower(s)) != len(s) {
			t.Fatalf("%q: Upper or Lower changes the length", s)
		}
		if Upper(Upper(s)) != Upper(s) || Lower(Lower(s)) != Lower(s) || Trim(Trim(s)) != Trim(s) {
			t.Fatalf("%q: the second change changes more", s)
		}
	}
}

type replaceCase struct {
	s, old, with, want string
	e                  api.Errno
}

// P4.3
func TestReplace(t *testing.T) {
	a64 := strings.Repeat("a", 64)
	for _, x := range []replaceCase{
		{"aaa", "aa", "b", "ba", api.OK},
		{"aaaa", "aa", "a", "aa", api.OK},
		{"ababa", "aba", "x", "xba", api.OK},
		{"abab", "b", "", "aa", api.OK},
		{"abab", "ab", "", "", api.OK},
		{"ab", "c", "x", "ab", api.OK},
		{"ab", "abc", "x", "ab", api.OK},
		{"", "a", "x", "", api.OK},
		{"a", "a", "aa", "aa", api.OK},
		{"ab", "", "x", "", api.ErrForm},
		{"", "", "", "", api.ErrForm},
		{a64 + "b", "", "x", "", api.ErrForm},
		{a64, "b", "x", a64, api.OK},
		{a64 + "b", "x", "", "", api.ErrSize},
		{a64 + "b", "b", "", a64, api.OK},
		{"b" + a64, "b", "", a64, api.OK},
		{"b" + a64, "b", "c", "", api.ErrSize},
		{a64 + "b", "b", "c", "", api.ErrSize},
		{a64[:32], "a", "bb", strings.Repeat("b", 64), api.OK},
		{a64[:33], "a", "bb", "", api.ErrSize},
		{strings.Repeat("ab", 32), "b", "cc", "", api.ErrSize},
		{strings.Repeat("a", 100000), "a", "", "", api.OK},
		{strings.Repeat("a", 100000), "a", strings.Repeat("b", 100000), "", api.ErrSize},
		{"a", "a", strings.Repeat("b", 64), strings.Repeat("b", 64), api.OK},
		{"a", "a", strings.Repeat("b", 65), "", api.ErrSize},
		{"ab", "b", strings.Repeat("b", 64), "", api.ErrSize},
		{"ba", "b", strings.Repeat("b", 64), "", api.ErrSize},
		{"\xe3\x81\x00", "\x81", "\xff", "\xe3\xff\x00", api.OK},
	} {
		if got, e := Replace(x.s, x.old, x.with); got != x.want || e != x.e {
			t.Errorf("Replace(%q, %q, %q) = %q, %d, not %q, %d", x.s, x.old, x.with, got, e, x.want, x.e)
		}
	}
	for _, s := range shortTexts("ab", 6) {
		for _, old := range shortTexts("ab", 3)[1:] {
			for _, with := range []string{"", "a", "ba", "abc"} {
				if got, e := Replace(s, old, with); got != strings.ReplaceAll(s, old, with) || e != api.OK {
					t.Fatalf("Replace(%q, %q, %q) = %q, %d", s, old, with, got, e)
				}
			}
			// P4.7
			if got, e := Replace(s, old, old); got != s || e != api.OK {
				t.Fatalf("Replace(%q, %q, %q) = %q, %d", s, old, old, got, e)
			}
		}
	}
}

// P4.4
func TestRepeat(t *testing.T) {
	a64 := strings.Repeat("a", 64)
	runTextCases(t, "Repeat", Repeat, []textCase{
		{"ab", 0, "", api.OK},
		{"ab", 1, "ab", api.OK},
		{"ab", 3, "ababab", api.OK},
		{"\xff\x00", 2, "\xff\x00\xff\x00", api.OK},
		{"a", 64, a64, api.OK},
		{"a", 65, "", api.ErrSize},
		{"abc", 21, strings.Repeat("abc", 21), api.OK},
		{"abc", 22, "", api.ErrSize},
		{a64, 1, a64, api.OK},
		{a64, 2, "", api.ErrSize},
		{a64 + "b", 0, "", api.OK},
		{a64 + "b", 1, "", api.ErrSize},
		{"a", math.MaxInt, "", api.ErrSize},
		{"abcd", 1 << 62, "", api.ErrSize},
		{"", 0, "", api.OK},
		{"", 1, "", api.OK},
		{"", math.MaxInt, "", api.OK},
		{"", -1, "", api.ErrRange},
		{"a", -1, "", api.ErrRange},
		{"a", math.MinInt, "", api.ErrRange},
		{a64 + "b", -1, "", api.ErrRange},
	})
}
