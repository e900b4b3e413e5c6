package example_test

import (
	"strings"
	"testing"

	"synthesis/api"
	"synthesis/example"
	"synthesis/grammar"
	"synthesis/value"
)

// repeated returns a list of as many equal examples as wanted.
func repeated(x api.Example, count int) []api.Example {
	var list []api.Example
	for range count {
		list = append(list, x)
	}
	return list
}

type checkCase struct {
	l    api.Language
	list []api.Example
	want api.Errno
}

// checkCases returns examples with their errors.
func checkCases() []checkCase {
	n, s := value.OfInt(1), value.OfText("a")
	tooGreat, noType, tooLong, hasNum := value.OfInt(api.MaxInt+1), api.Value{}, value.OfText(strings.Repeat("a", api.MaxText+1)), api.Value{Type: api.Text, Num: 1}
	return []checkCase{
		{sums(), nil, api.OK},
		{sums(), []api.Example{}, api.OK},
		{sums(), []api.Example{number(1, 2)}, api.OK},
		{sums(), []api.Example{number(1, 2), number(2, 2), number(-1, api.MaxInt)}, api.OK},
		// Equal examples do not contradict each other.
		{sums(), []api.Example{number(1, 2), number(1, 2)}, api.OK},
		{sums(), repeated(number(1, 2), api.MaxExamples), api.OK},
		{sums(), repeated(number(1, 2), api.MaxExamples+1), api.ErrSize},
		{words(), []api.Example{of(s, s, n), of(s, s, value.OfInt(2))}, api.OK},
		{constants(), []api.Example{of(n), of(n)}, api.OK},
		// The inputs.
		{sums(), []api.Example{of(n)}, api.ErrSize},
		{sums(), []api.Example{of(n, n, n)}, api.ErrSize},
		{sums(), []api.Example{of(n, s)}, api.ErrType},
		{sums(), []api.Example{of(n, noType)}, api.ErrType},
		{sums(), []api.Example{number(api.MaxInt+1, 1)}, api.ErrRange},
		{words(), []api.Example{of(s, n, s)}, api.ErrType},
		{words(), []api.Example{of(s, hasNum, n)}, api.ErrForm},
		{constants(), []api.Example{of(n, n)}, api.ErrSize},
		// The output.
		{sums(), []api.Example{of(s, n)}, api.ErrType},
		{sums(), []api.Example{of(value.OfBits(1), n)}, api.ErrType},
		{sums(), []api.Example{of(noType, n)}, api.ErrType},
		{sums(), []api.Example{of(tooGreat, n)}, api.ErrRange},
		{sums(), []api.Example{of(tooLong, n)}, api.ErrSize},
		{sums(), []api.Example{of(hasNum, n)}, api.ErrForm},
		{words(), []api.Example{of(n, s, n)}, api.ErrType},
		{constants(), []api.Example{of(s)}, api.ErrType},
		// Contradictions.
		{sums(), []api.Example{number(1, 2), number(1, 3)}, api.ErrConflict},
		{sums(), []api.Example{number(1, 2), number(2, 2), number(3, 1), number(2, 1)}, api.ErrConflict},
		{words(), []api.Example{of(s, s, n), of(value.OfText(""), s, n)}, api.ErrConflict},
		{constants(), []api.Example{of(n), of(value.OfInt(2))}, api.ErrConflict},
		// The order of the errors.
		{sums(), repeated(of(tooGreat), api.MaxExamples+1), api.ErrSize},
		{sums(), append(repeated(number(1, 2), api.MaxExamples), number(1, 3)), api.ErrSize},
		{sums(), []api.Example{of(tooGreat)}, api.ErrSize},
		{sums(), []api.Example{of(tooGreat, s)}, api.ErrType},
		{sums(), []api.Example{of(s, tooGreat)}, api.ErrRange},
		{sums(), []api.Example{of(hasNum, n), of(n)}, api.ErrForm},
		{sums(), []api.Example{of(s, n), of(n), of(tooGreat, n)}, api.ErrType},
		{sums(), []api.Example{number(1, 1), of(tooGreat, n), of(s, n)}, api.ErrRange},
		{sums(), []api.Example{number(1, 2), number(1, 3), of(n, s)}, api.ErrType},
		{sums(), []api.Example{number(1, 2), number(1, 3), number(2, api.MaxInt+1)}, api.ErrRange},
	}
}

// P17.1
func TestCheck(t *testing.T) {
	for i, x := range checkCases() {
		if e := example.Check(x.l, x.list); e != x.want {
			t.Errorf("case %d: %d, not %d", i, e, x.want)
		}
	}
}

// invalid returns languages that are not valid.
func invalid() []api.Language {
	noName, noSymbols, twice := sums(), sums(), sums()
	noName.Name = ""
	noSymbols.Symbols = nil
	twice.Rules = append(twice.Rules, twice.Rules[0])
	return []api.Language{{}, noName, noSymbols, twice}
}

// P17.1, P17.3: the error of the language comes first.
func TestLanguageErrors(t *testing.T) {
	for _, l := range invalid() {
		want := grammar.Check(l)
		for _, list := range [][]api.Example{nil, {number(1, 2), number(1, 3)}, {{}}, repeated(api.Example{}, api.MaxExamples+1)} {
			if e := example.Check(l, list); e != want || e == api.OK {
				t.Errorf("%v: %d, not %d", l, e, want)
			}
			for _, x := range []api.Term{{}, {Rule: -1}} {
				if m, e := example.Matches(l, x, list); e != want || len(m) > 0 {
					t.Errorf("%v: %v, %d, not %d", l, m, e, want)
				}
			}
		}
	}
}
