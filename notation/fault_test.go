package notation_test

import (
	"strings"
	"testing"

	"synthesis/api"
	"synthesis/literal"
	"synthesis/notation"
	"synthesis/operator"
	"synthesis/term"
)

// findFault returns the fault of a text, and whether it is an expression. It follows the definition with a list of what must stand next:
// an expression if it is empty, and otherwise these bytes.
func findFault(s string) (int, bool) {
	next := []string{""}
	at := 0
	for len(next) > 0 {
		want := next[0]
		next = next[1:]
		for i := range len(want) {
			if at == len(s) || s[at] != want[i] {
				return at, false
			}
			at++
		}
		if want == "" {
			more, length, isThere := findExpression(s[at:])
			at += length
			if !isThere {
				return at, false
			}
			next = append(more, next...)
		}
	}
	return at, at == len(s)
}

// findExpression returns what must stand after the beginning of an expression, and the length of this beginning; or the fault of s and false.
func findExpression(s string) ([]string, int, bool) {
	const letters = "abcdefghijklmnopqrstuvwxyzABCDEFGHIJKLMNOPQRSTUVWXYZ"
	word := s[:len(s)-len(strings.TrimLeft(s, letters+"0123456789"))]
	if word == "" || !strings.Contains(letters, word[:1]) || word == "true" || word == "false" || strings.HasPrefix(s, `r"`) {
		return findLiteral(s)
	}
	if word == "in0" || word == "in1" || word == "in2" || word == "in3" {
		return nil, 3, true
	}
	o, isKnown := operator.Find(word)
	if !isKnown {
		return nil, 0, false
	}
	next := []string{"("}
	for i := range o.Args {
		if i > 0 {
			next = append(next, ", ")
		}
		next = append(next, "")
	}
	return append(next, ")"), len(word), true
}

// findLiteral returns the length of the longest literal with which s begins, or the fault of s and false.
func findLiteral(s string) ([]string, int, bool) {
	for n := len(s); n > 0; n-- {
		if _, _, e := literal.Parse(s[:n]); e == api.OK {
			return nil, n, true
		}
	}
	_, fault, _ := literal.Parse(s)
	return nil, fault, false
}

// checkFault compares the fault of a text with the definition.
func checkFault(t *testing.T, s string) {
	t.Helper()
	l := everything()
	want, isExpression := findFault(s)
	for _, symbol := range []int{1, 2} {
		got, at, e := notation.Parse(l, symbol, s)
		if !isExpression {
			if at != want || e != api.ErrSyntax || !isEmpty(got) {
				t.Fatalf("Parse of %q is %v, %d, %d, not %d", s, got, at, e, want)
			}
			continue
		}
		if at != 0 || e != api.OK && e != api.ErrNone || e != api.OK && !isEmpty(got) {
			t.Fatalf("Parse of %q is %v, %d, %d", s, got, at, e)
		}
		// What is read is written in the same way.
		if e == api.OK && (textOf(l, got) != s || term.Check(l, symbol, got) != api.OK) {
			t.Fatalf("Parse of %q is %v", s, got)
		}
	}
}

// P14.2: texts that are almost expressions.
func TestFaultsOfMutations(t *testing.T) {
	const bytes = "\x00 !\"(),-/0123459:<>AFSZ[\\]_adefilnrstuxz{}~\x7f\xe9"
	for _, s := range []string{
		"add(in0, in0)", "less(in0, -12)", "not(not(false))", "add(true, r\"a\")", `slice(extract(in1, r"[a-z]*", 0), in0, sum([]))`, `join(row(in3, 0), "S = in0), (true, ")`,
		"add(0x0f, 0x00)", "neg(0)", "neg(1000000)", "neg(-1000000)", "in3", "eqbits(bnot(0xff), 0x0f)", `join({"", "x"}, "\"\\")`, `cell(<{"a", "b"}, {"c", "d"}>, 0, 1)`, "sum([1, -2, 30])", `pcat(r"\"\\)", plit("a"))`,
		"ifint(true, in0, 1000000)", "", "0x0",
	} {
		mutations(s, bytes, func(s string) { checkFault(t, s) })
	}
}

// P14.2: all short texts over some small alphabets.
func TestFaultsOfShortTexts(t *testing.T) {
	for _, x := range []struct {
		parts  []string
		length int
	}{
		{[]string{"add", "neg", "(", ")", ",", " ", "in0", "1", "0x"}, 5},
		{[]string{"r", "\"", "\\", "in", "3", "4", "true", "-", "not(", "S"}, 4},
		{[]string{"[", "]", ", ", "{", "}", "<", ">", "\"a\"", "0", "len("}, 4},
	} {
		var extend func(s string, left int)
		extend = func(s string, left int) {
			checkFault(t, s)
			for i := 0; i < len(x.parts) && left > 0; i++ {
				extend(s+x.parts[i], left-1)
			}
		}
		extend("", x.length)
	}
}

// P14.2: every operator is known by its name alone, and needs all of its arguments.
func TestFaultsOfOperators(t *testing.T) {
	for _, name := range operator.Names() {
		o, _ := operator.Find(name)
		for n := range 5 {
			s := name + "(" + strings.Join(strings.Split(strings.Repeat("1", n), ""), ", ") + ")"
			checkFault(t, s)
			if _, at, e := notation.Parse(sums(), 0, s); (e == api.ErrNone) != (n == len(o.Args)) {
				t.Errorf("Parse of %q is %d, %d", s, at, e)
			}
		}
		for _, s := range []string{name, name + " (", name + "x(1)", name + "1(1)", strings.ToUpper(name) + "(1)", name[1:] + "(1)", name + "-(1)"} {
			checkFault(t, s)
		}
	}
}
