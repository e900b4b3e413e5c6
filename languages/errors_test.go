package languages_test

import (
	"math"
	"strings"
	"testing"

	"synthesis/api"
	"synthesis/languages"
)

// numbered returns different words and numbers, as many as wanted.
func numbered(count int) ([]string, []int64) {
	var words []string
	var numbers []int64
	for n := range count {
		words, numbers = append(words, strings.Repeat("a", n)), append(numbers, int64(n))
	}
	return words, numbers
}

// checkError checks that a result is the language with the name, or this error.
func checkError(t *testing.T, i int, name string, l api.Language, e, want api.Errno) {
	t.Helper()
	if e != want || e == api.OK && l.Name != name || e != api.OK && !isEmpty(l) {
		t.Errorf("%s, case %d: %q, %d, not %d", name, i, l.Name, e, want)
	}
}

// P16.2: the errors of Strings in their order: those of words come first.
func TestStringsErrors(t *testing.T) {
	words16, numbers16 := numbered(16)
	words17, numbers17 := numbered(17)
	long := strings.Repeat("a", api.MaxText)
	for i, x := range []struct {
		words   []string
		numbers []int64
		want    api.Errno
	}{
		{nil, nil, api.OK},
		{[]string{}, []int64{}, api.OK},
		{[]string{""}, []int64{0}, api.OK},
		{words16, numbers16, api.OK},
		{words17, nil, api.ErrSize},
		{make([]string, 17), nil, api.ErrSize},
		{[]string{long}, nil, api.OK},
		{[]string{long + "a"}, nil, api.ErrSize},
		{[]string{"a\x1fb"}, nil, api.ErrRange},
		{[]string{"\x7f"}, nil, api.ErrRange},
		{[]string{"é"}, nil, api.ErrRange},
		{[]string{" ~"}, nil, api.OK},
		{[]string{"a", "b", "a"}, nil, api.ErrTwice},
		{[]string{"", ""}, nil, api.ErrTwice},
		{[]string{"a", "A"}, nil, api.OK},
		// The first word that has an error counts.
		{[]string{"a", "a", "\n"}, nil, api.ErrTwice},
		{[]string{"a", "\n", "a"}, nil, api.ErrRange},
		{[]string{"\n", "\n"}, nil, api.ErrRange},
		{[]string{"a", "a", long + "a"}, nil, api.ErrTwice},
		{nil, numbers17, api.ErrSize},
		{nil, make([]int64, 17), api.ErrSize},
		{nil, []int64{api.MaxInt, -api.MaxInt}, api.OK},
		{nil, []int64{api.MaxInt + 1}, api.ErrRange},
		{nil, []int64{-api.MaxInt - 1}, api.ErrRange},
		{nil, []int64{math.MinInt64}, api.ErrRange},
		{nil, []int64{math.MaxInt64}, api.ErrRange},
		{nil, []int64{3, 0, 3}, api.ErrTwice},
		{nil, []int64{3, 3, api.MaxInt + 1}, api.ErrTwice},
		{nil, []int64{3, api.MaxInt + 1, 3}, api.ErrRange},
		{nil, []int64{api.MaxInt + 1, api.MaxInt + 1}, api.ErrRange},
		// Every error of the words comes before those of the numbers.
		{words17, numbers17, api.ErrSize},
		{[]string{"\n"}, numbers17, api.ErrRange},
		{[]string{"a", "a"}, numbers17, api.ErrTwice},
		{[]string{"a", "a"}, []int64{api.MaxInt + 1}, api.ErrTwice},
		{[]string{long + "a"}, []int64{1, 1}, api.ErrSize},
		{[]string{"a"}, numbers17, api.ErrSize},
	} {
		l, e := languages.Strings(x.words, x.numbers)
		checkError(t, i, "strings", l, e, x.want)
	}
}

// P16.4 to P16.6: the errors of the numbers of the other languages.
func TestNumberErrors(t *testing.T) {
	_, numbers16 := numbered(16)
	_, numbers17 := numbered(17)
	for i, x := range []struct {
		numbers   []int64
		ints, bit api.Errno
	}{
		{nil, api.OK, api.OK},
		{[]int64{}, api.OK, api.OK},
		{numbers16, api.OK, api.OK},
		{numbers17, api.ErrSize, api.ErrSize},
		{make([]int64, 17), api.ErrSize, api.ErrSize},
		{[]int64{0, 255}, api.OK, api.OK},
		{[]int64{1, 2, 4}, api.OK, api.OK},
		{[]int64{256}, api.OK, api.ErrRange},
		{[]int64{-1}, api.OK, api.ErrRange},
		{[]int64{api.MaxInt, -api.MaxInt}, api.OK, api.ErrRange},
		{[]int64{api.MaxInt + 1}, api.ErrRange, api.ErrRange},
		{[]int64{-api.MaxInt - 1}, api.ErrRange, api.ErrRange},
		{[]int64{math.MinInt64}, api.ErrRange, api.ErrRange},
		{[]int64{5, 7, 5}, api.ErrTwice, api.ErrTwice},
		{[]int64{5, 5, -1}, api.ErrTwice, api.ErrTwice},
		{[]int64{5, -1, 5}, api.ErrTwice, api.ErrRange},
		{[]int64{-1, -1}, api.ErrTwice, api.ErrRange},
		{[]int64{5, 5, api.MaxInt + 1}, api.ErrTwice, api.ErrTwice},
		{[]int64{5, api.MaxInt + 1, 5}, api.ErrRange, api.ErrRange},
		{append([]int64{api.MaxInt + 1}, numbers16...), api.ErrSize, api.ErrSize},
	} {
		l, e := languages.Lists(x.numbers)
		checkError(t, i, "lists", l, e, x.ints)
		l, e = languages.Reshaping(x.numbers)
		checkError(t, i, "tables", l, e, x.ints)
		l, e = languages.Vectors(x.numbers)
		checkError(t, i, "vectors", l, e, x.bit)
	}
}

// P16.3: the errors of Patterns.
func TestPatternsErrors(t *testing.T) {
	for i, x := range []struct {
		alphabet string
		want     api.Errno
	}{
		{"", api.ErrSize},
		{"a", api.OK},
		{"abcdefghijklmnop", api.OK},
		{"abcdefghijklmnopq", api.ErrSize},
		{strings.Repeat("a", 17), api.ErrSize},
		{strings.Repeat("\n", 17), api.ErrSize},
		// These are 16 and 18 bytes, and fewer runes.
		{strings.Repeat("é", 8), api.ErrRange},
		{strings.Repeat("é", 9), api.ErrSize},
		{"aba", api.ErrTwice},
		{"a\n\n", api.ErrRange},
		{"aa\n", api.ErrTwice},
		{"a\na", api.ErrRange},
		{"ab\x00", api.ErrRange},
		{"()[].*|\\", api.OK},
		{"\\\\", api.ErrTwice},
	} {
		l, e := languages.Patterns(x.alphabet)
		checkError(t, i, "patterns", l, e, x.want)
	}
}

// P16.3: every byte alone.
func TestPatternsOfBytes(t *testing.T) {
	for b := range 256 {
		alphabet := string([]byte{byte(b)})
		l, e := languages.Patterns(alphabet)
		if b < 32 || b > 126 {
			checkError(t, b, "patterns", l, e, api.ErrRange)
			continue
		}
		checkError(t, b, "patterns", l, e, api.OK)
		want := alphabet
		if strings.Contains("()[].*|\\", alphabet) {
			want = "\\" + alphabet
		}
		if c := l.Rules[2].Const; c.Type != api.Pattern || c.Text != want {
			t.Errorf("the byte %d has the pattern %v", b, c)
		}
		checkLanguage(t, l)
	}
}
