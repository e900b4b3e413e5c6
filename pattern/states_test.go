package pattern_test

import (
	"strings"
	"testing"

	"synthesis/api"
	"synthesis/pattern"
)

func checkSame(t *testing.T, p, q string, want bool, wantError api.Errno) {
	t.Helper()
	for _, x := range [][2]string{{p, q}, {q, p}} {
		if got, e := pattern.Same(x[0], x[1]); got != want || e != wantError {
			t.Errorf("Same(%q, %q) is %v, %d, not %v, %d", x[0], x[1], got, e, want, wantError)
		}
	}
}

// P5.6 and P5.9
func TestSame(t *testing.T) {
	for _, x := range []struct {
		p, q string
		want bool
	}{
		{"(a|b)*", "(a*b*)*", true}, {"a*", "aa*", false}, {"a*", "()|aa*", true}, {"a", "a", true}, {"a", "b", false}, {"()", "[]*", true}, {"()", "[]", false}, {"a[]", "[]b", true}, {"[^ -~]", "[]", true},
		{".", "[ -~]", true}, {".", "[ -}]", false}, {".", "[!-~]", false}, {"[a-c]", "a|b|c", true}, {"[a-c]", "a|b", false}, {"[^a]|a", ".", true}, {"(ab)*a", "a(ba)*", true}, {"(a|b)*a(a|b)", "(a|b)*(ab|aa)", true}, {"(a|b)*a(a|b)", "(a|b)*ab", false}, {"a|a", "a", true}, {"(aa)*(aaa)*", "()|aaa*", true}, {"(aa)*(aaa)*", "a*", false}, {"(a*)*", "a*", true}, {a40, a40, true}, {a40, a39, false},
	} {
		checkSame(t, x.p, x.q, x.want, api.OK)
		if x.want {
			checkSameWords(t, x.p, x.q)
		}
	}
}

// checkSameWords checks the law of P5.9 for two patterns that are the same.
func checkSameWords(t *testing.T, p, q string) {
	t.Helper()
	for length := range api.MaxText + 1 {
		n, e := pattern.Words(p, length)
		checkWords(t, q, length, n, e)
	}
}

// P5.6: the errors, in their order.
func TestSameErrors(t *testing.T) {
	for _, x := range []struct {
		p, q string
		e    api.Errno
	}{
		{"", "(", api.ErrSize}, {"(", "", api.ErrSyntax}, {"a", "", api.ErrSize}, {"a", ")", api.ErrSyntax}, {a41, "*", api.ErrSize}, {"*", a41, api.ErrSyntax}, {"", "", api.ErrSize}, {manyStates, "(", api.ErrSyntax}, {"(", manyStates, api.ErrSyntax},
	} {
		if got, e := pattern.Same(x.p, x.q); got || e != x.e {
			t.Errorf("Same(%q, %q) is %v, %d, not %d", x.p, x.q, got, e, x.e)
		}
	}
}

const (
	// manyStates has the initial state, and one for each set of offsets among the last 12 at which an a may have been: 4097 states.
	manyStates = ".*a..........."
	// halfAsMany has 2049 states.
	halfAsMany = ".*a.........."
)

// P5.6: the number of pairs of states.
func TestSameLimit(t *testing.T) {
	checkSame(t, halfAsMany, halfAsMany, true, api.OK)
	checkSame(t, halfAsMany, "a", false, api.OK)
	checkSame(t, manyStates, manyStates, false, api.ErrLimit)
	// The texts of no bytes show the difference, but the pairs are too many all the same.
	checkSame(t, manyStates, "()", false, api.ErrLimit)
	checkSame(t, manyStates, ".*", false, api.ErrLimit)
	// Each pattern has few states, but after the first byte the number of bytes may be even or odd for all of the 2048 sets.
	checkSame(t, halfAsMany, "(..)*", false, api.ErrLimit)
	checkSame(t, "(.a|a.)*", "(..)*", false, api.OK)
}

// P5.6: texts of a's go round in cycles of 15, 16 and 17, which have 4080 pairs. The initial pair, that of no positions,
// and those before the cycle of 17 begins are added.
func TestSameLimitIsExact(t *testing.T) {
	power := func(n int) string { return strings.Repeat("a", n) }
	cycles := "(" + power(16) + ")*|(" + power(15) + ")*"
	checkSame(t, cycles, power(14)+"("+power(17)+")*", false, api.OK)
	checkSame(t, cycles, power(15)+"("+power(17)+")*", false, api.ErrLimit)
}

// P5.6: all pairs of short patterns. Texts of up to 4 bytes tell such patterns apart.
func TestSameOfShortPatterns(t *testing.T) {
	patterns, trees := patternsUpTo("()[].*|ab", 3)
	all := textsUpTo("()[.*|abc", 4)
	languages := make([]string, len(trees))
	for i, x := range trees {
		for _, s := range all {
			languages[i] += map[bool]string{false: "0", true: "1"}[accepts(x, s)]
		}
	}
	for i, p := range patterns {
		for k := i; k < len(patterns); k++ {
			checkSame(t, p, patterns[k], languages[i] == languages[k], api.OK)
		}
	}
}

func checkWords(t *testing.T, p string, length int, want int64, wantError api.Errno) {
	t.Helper()
	if got, e := pattern.Words(p, length); got != want || e != wantError {
		t.Errorf("Words(%q, %d) is %d, %d, not %d, %d", p, length, got, e, want, wantError)
	}
}

// P5.8
func TestWords(t *testing.T) {
	for _, x := range []struct {
		p      string
		length int
		want   int64
	}{
		{"(a|b)*", 3, 8}, {"(a|b)*", 0, 1}, {"()", 0, 1}, {"()", 1, 0}, {"[]", 0, 0}, {"[]", 1, 0}, {".", 1, alphabetSize}, {".", 0, 0}, {".", 2, 0}, {"..", 2, alphabetSize * alphabetSize}, {"[^a]", 1, alphabetSize - 1},
		{"a|a", 1, 1}, {"a*a*", 5, 1}, {"a*b*", 5, 6}, {"(a|b)*a(a|b)*", 3, 7}, {"(aa|bb)*", 4, 4}, {"(aa|bb)*", 3, 0}, {"(a|ab)*", 4, 5}, {a40, 40, 1}, {a40, 39, 0}, {"a*", 64, 1}, {"[ab]*", 59, 1 << 59},
	} {
		checkWords(t, x.p, x.length, x.want, api.OK)
	}
	power := int64(1)
	for n := range 10 {
		checkWords(t, ".*", n, power, api.OK)
		power *= alphabetSize
	}
	checkWords(t, ".*", 10, 0, api.ErrMany)
}

// P5.8: the greatest number.
func TestWordsMany(t *testing.T) {
	checkWords(t, "[ab]*", 60, api.MaxCount, api.OK)
	checkWords(t, "[ab]*", 61, 0, api.ErrMany)
	checkWords(t, "[ab]*|c*", 60, 0, api.ErrMany)
	checkWords(t, "a[ab]*", 61, api.MaxCount, api.OK)
	checkWords(t, "a[ab]*|b*", 61, 0, api.ErrMany)
	for length := 61; length <= api.MaxText; length++ {
		checkWords(t, "(a|b)*", length, 0, api.ErrMany)
		checkWords(t, ".*", length, 0, api.ErrMany)
		// Texts without number begin as matches do, but only these end as one.
		checkWords(t, ".*[]|a*", length, 1, api.OK)
		checkWords(t, "a.*[]|b*|bbc*", length, 2, api.OK)
	}
}

// P5.8: the errors, in their order.
func TestWordsErrors(t *testing.T) {
	for _, length := range []int{-1 << 63, -1, api.MaxText + 1, 1<<63 - 1} {
		checkWords(t, "a", length, 0, api.ErrRange)
		checkWords(t, manyStates, length, 0, api.ErrRange)
		checkWords(t, "", length, 0, api.ErrSize)
		checkWords(t, "(", length, 0, api.ErrSyntax)
	}
	for _, length := range []int{0, 1, 12, 64} {
		checkWords(t, manyStates, length, 0, api.ErrLimit)
		checkWords(t, "", length, 0, api.ErrSize)
		checkWords(t, "(", length, 0, api.ErrSyntax)
	}
	checkWords(t, halfAsMany, 0, 0, api.OK)
	checkWords(t, halfAsMany, 11, 0, api.ErrMany)
	checkWords(t, ".*a...", 4, alphabetSize*alphabetSize*alphabetSize, api.OK)
	// This pattern has 4096 states, as many as are permitted.
	checkWords(t, ".*a......|.*b......|.*b.(..)*", 1, 0, api.OK)
	checkWords(t, ".*a......|.*b......|.*b.(..)*", 2, alphabetSize, api.OK)
}

// P5.8: short patterns, and the texts that they match.
func TestWordsOfShortPatterns(t *testing.T) {
	patterns, trees := patternsUpTo("()[]*|ab", 4)
	all := textsUpTo("()[*|ab", 4)
	for i, p := range patterns {
		counts := make([]int64, 5)
		for _, s := range all {
			if accepts(trees[i], s) {
				counts[len(s)]++
			}
		}
		for length, want := range counts {
			checkWords(t, p, length, want, api.OK)
		}
	}
}

// P5.8 and P5.9: the texts over the whole alphabet.
func TestWordsAgreeWithMatch(t *testing.T) {
	var alphabet []byte
	for b := byte(' '); b <= '~'; b++ {
		alphabet = append(alphabet, b)
	}
	all := textsUpTo(string(alphabet), 2)
	for _, p := range []string{".", "[^a]*", "[b-y].", ".|..", "(a|[^b])(b|.)", `a*[^\-]*`, "[^ -}]*", `\..|.\.`, "()|~ "} {
		var counts [3]int64
		for _, s := range all {
			if ok, _ := pattern.Match(p, s); ok {
				counts[len(s)]++
			}
		}
		for length, want := range counts {
			checkWords(t, p, length, want, api.OK)
		}
	}
}
