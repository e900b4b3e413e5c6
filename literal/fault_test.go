package literal

import (
	"strconv"
	"strings"
	"testing"

	"synthesis/api"
	"synthesis/value"
)

// A parser returns the fault of a text, and whether it accepts the text.
type parser func(s string) (int, bool)

func parseOne(s string) (int, bool) {
	_, n, e := Parse(s)
	return n, e == api.OK
}

func parseTuple(s string) (int, bool) {
	_, n, e := ParseAll(s)
	return n, e == api.OK
}

func parseQuoted(s string) (int, bool) {
	_, n, e := Unquote(s)
	return n, e == api.OK
}

// faultIn returns the length of the longest beginning of s that is one of beginnings.
func faultIn(beginnings map[string]bool, s string) int {
	n := len(s)
	for n > 0 && !beginnings[s[:n]] {
		n--
	}
	return n
}

// addBeginnings adds the beginnings of s with at most the given length.
func addBeginnings(beginnings map[string]bool, s string, length int) {
	for n := range min(len(s), length) + 1 {
		beginnings[s[:n]] = true
	}
}

// forAllTexts calls f for all texts of at most the given length over an alphabet.
func forAllTexts(alphabet []string, length int, f func(s string)) {
	var extend func(s string, left int)
	extend = func(s string, left int) {
		f(s)
		if left == 0 {
			return
		}
		for _, c := range alphabet {
			extend(s+c, left-1)
		}
	}
	extend("", length)
}

// checkAgainst compares a parser with a set of texts by the definition of the fault. The set must have all texts
// of the parser that begin like a text of the given length over the alphabet, as far as their beginnings matter.
func checkAgainst(t *testing.T, name string, parse parser, texts []string, alphabet []string, length int) {
	t.Helper()
	accepted, beginnings := map[string]bool{}, map[string]bool{}
	for _, s := range texts {
		accepted[s] = true
		addBeginnings(beginnings, s, length)
	}
	forAllTexts(alphabet, length, func(s string) {
		want := faultIn(beginnings, s)
		if accepted[s] {
			want = 0
		}
		if n, ok := parse(s); ok != accepted[s] || n != want {
			t.Fatalf("%s: %q has the fault %d, %t, not %d, %t", name, s, n, ok, want, accepted[s])
		}
	})
}

// tuples returns all lists of at most n of the items.
func tuples(items []string, n int) [][]string {
	all := [][]string{nil}
	last := all
	for range n {
		var next [][]string
		for _, l := range last {
			for _, item := range items {
				next = append(next, append(append([]string(nil), l...), item))
			}
		}
		all = append(all, next...)
		last = next
	}
	return all
}

// P2.2 and P2.4: all short texts over a small alphabet.
func TestFaultsOfShortTexts(t *testing.T) {
	const length = 5
	alphabet := []string{"[", "]", ",", " ", "-", "0", "1", "x"}
	var singles []string
	for _, digits := range tuples([]string{"0", "1"}, length) {
		s := strings.Join(digits, "")
		if n, err := strconv.Atoi(s); err == nil && strconv.Itoa(n) == s {
			singles = append(singles, s)
			if n > 0 {
				singles = append(singles, "-"+s)
			}
		}
	}
	for _, l := range tuples(singles, 2) {
		singles = append(singles, "["+strings.Join(l, ", ")+"]")
	}
	for _, high := range "01" {
		for _, low := range "01" {
			singles = append(singles, "0x"+string(high)+string(low))
		}
	}
	checkAgainst(t, "Parse", parseOne, singles, alphabet, length)

	// The second value begins at the offset 3 or later, so that only its first two bytes matter.
	lists := append([]string{""}, singles...)
	for _, first := range singles {
		for _, second := range []string{"0", "1", "10", "11", "-1", "0x00", "[]", "[0]", "[1]", "[-1]"} {
			lists = append(lists, first+", "+second, first+", "+second+", 0")
		}
	}
	checkAgainst(t, "ParseAll", parseTuple, lists, alphabet, length)
}

// P2.5: all short texts over a small alphabet.
func TestFaultsOfShortQuotedTexts(t *testing.T) {
	const length = 5
	contents := []string{"a", "x", "0", "7", "f", `\"`, `\\`}
	for _, high := range "07af" {
		for _, low := range "07af" {
			if high != '7' || low == 'f' {
				contents = append(contents, `\x`+string(high)+string(low))
			}
		}
	}
	var quoted []string
	for _, l := range tuples(contents, length-1) {
		quoted = append(quoted, `"`+strings.Join(l, "")+`"`)
	}
	checkAgainst(t, "Unquote", parseQuoted, quoted, []string{`"`, `\`, "x", "a", "0", "7", "f"}, length)
}

// mutations calls f for s, its beginnings, and the texts that differ from s in one byte, lack one or have one more.
func mutations(s string, f func(s string)) {
	f(s)
	for i := range len(s) + 1 {
		f(s[:i])
		for _, c := range "\x00 !\",-/019:AFL[\\]aefrstuxz{}<>~\x7f\xe9" {
			f(s[:i] + string(c) + s[i:])
			if i < len(s) {
				f(s[:i] + string(c) + s[i+1:])
			}
		}
		if i < len(s) {
			f(s[:i] + s[i+1:])
		}
	}
}

// checkFault checks what P2.6 says of a fault.
func checkFault(t *testing.T, name string, parse parser, s string) {
	t.Helper()
	n, ok := parse(s)
	if ok {
		if n != 0 {
			t.Fatalf("%s: %q is accepted with the fault %d", name, s, n)
		}
		return
	}
	if n < 0 || n > len(s) {
		t.Fatalf("%s: %q has the fault %d", name, s, n)
	}
	if k, ok := parse(s[:n]); !ok && k != n {
		t.Fatalf("%s: %q has the fault %d, but %q has %d", name, s, n, s[:n], k)
	}
	if n < len(s) {
		if k, ok := parse(s[:n+1]); ok || k != n {
			t.Fatalf("%s: %q has the fault %d, but %q has %d, %t", name, s, n, s[:n+1], k, ok)
		}
	}
	if !completes(parse, s[:n]) {
		t.Fatalf("%s: %q has the fault %d, but %q does not go on", name, s, n, s[:n])
	}
}

// completes reports whether more bytes, of which each one leaves no fault, make s a text that the parser accepts.
func completes(parse parser, s string) bool {
	for range 60 {
		if _, ok := parse(s); ok {
			return true
		}
		// Bytes that end something come first, so that this ends.
		for _, c := range []byte("\"]}>,0123456789abcdef eulrstx{") {
			longer := s + string(rune(c))
			if n, ok := parse(longer); ok || n == len(longer) {
				s = longer
				break
			}
		}
	}
	return false
}

// P2.6: faults of texts that are almost literals.
func TestFaultConsequences(t *testing.T) {
	for _, x := range literals() {
		if len(x.want) > 80 {
			continue
		}
		mutations(x.want, func(s string) {
			checkFault(t, "Parse", parseOne, s)
			checkFault(t, "ParseAll", parseTuple, s)
			checkFault(t, "Unquote", parseQuoted, s)
		})
		mutations(Quote(x.want), func(s string) { checkFault(t, "Unquote", parseQuoted, s) })
	}
	mutations(Quote("a\n\"\\\x7f\u00e9\xff\x00"), func(s string) { checkFault(t, "Unquote", parseQuoted, s) })
	mutations(`1, "a", [-1, 10], <{"a"}, {","}>`, func(s string) { checkFault(t, "ParseAll", parseTuple, s) })
}

// P2.6: what a parser accepts is written in the same way.
func TestParsersAreInverse(t *testing.T) {
	check := func(s string) {
		if v, _, e := Parse(s); e == api.OK {
			if again, e := Print(v); again != s || e != api.OK {
				t.Fatalf("Print of Parse(%q) = %q, %d", s, again, e)
			}
		}
		if l, _, e := ParseAll(s); e == api.OK {
			if again, e := PrintAll(l); again != s || e != api.OK {
				t.Fatalf("PrintAll of ParseAll(%q) = %q, %d", s, again, e)
			}
		}
		if u, _, e := Unquote(s); e == api.OK && Quote(u) != s {
			t.Fatalf("Quote of Unquote(%q) = %q", s, Quote(u))
		}
	}
	for _, x := range literals() {
		mutations(x.want, check)
		mutations(x.want+", "+x.want, check)
	}
	for _, x := range literals() {
		for _, y := range literals() {
			if (x.want == y.want) != value.Equal(x.v, y.v) {
				t.Errorf("%s and %s", x.want, y.want)
			}
		}
	}
}
