package pattern_test

import (
	"math/rand"
	"reflect"
	"strings"
	"testing"

	"synthesis/api"
	"synthesis/pattern"
)

func checkTree(t *testing.T, p string, want tree) {
	t.Helper()
	got, at, e := pattern.Parse(p)
	if !reflect.DeepEqual(got, want) || at != 0 || e != api.OK {
		t.Errorf("Parse(%q) is %v, %d, %d, not %v", p, got, at, e, want)
	}
}

func checkFault(t *testing.T, p string, want int, wantError api.Errno) {
	t.Helper()
	got, at, e := pattern.Parse(p)
	if !reflect.DeepEqual(got, tree{}) || at != want || e != wantError {
		t.Errorf("Parse(%q) is %v, %d, %d, not %d, %d", p, got, at, e, want, wantError)
	}
}

// P5.1: the trees.
func TestParseTrees(t *testing.T) {
	a, b, c := of("a"), of("b"), of("c")
	for _, x := range []struct {
		p    string
		want tree
	}{
		{"()", empty}, {"[]", nothing}, {"(())", empty}, {"([])", nothing}, {"()()", cat(empty, empty)}, {"[][]", cat(nothing, nothing)},
		{"a", a}, {"(a)", a}, {"((a))", a}, {" ", of(" ")}, {"~", of("~")}, {"^", of("^")}, {"-", of("-")}, {"{1,2}", cat(of("{"), of("1"), of(","), of("2"), of("}"))},
		{".", anyByte}, {`\.`, of(".")}, {`\\`, of(`\`)}, {`\(\)\[\]\*\|`, cat(of("("), of(")"), of("["), of("]"), of("*"), of("|"))},
		{"ab", cat(a, b)}, {"abc", cat(a, b, c)}, {"(ab)c", cat(cat(a, b), c)}, {"a(bc)", cat(a, cat(b, c))},
		{"a|b", alt(a, b)}, {"a|b|c", alt(a, b, c)}, {"(a|b)|c", alt(alt(a, b), c)}, {"a|(b|c)", alt(a, alt(b, c))}, {"(a|b)c", cat(alt(a, b), c)},
		{"a|bc*", alt(a, cat(b, rep(c)))}, {"a*", rep(a)}, {"(a*)*", rep(rep(a))}, {"(ab)*", rep(cat(a, b))}, {"ab*", cat(a, rep(b))}, {"()*", rep(empty)}, {"[]*", rep(nothing)}, {".*", rep(anyByte)}, {`\**`, rep(of("*"))}, {"[ab]*", rep(of("ab"))},
	} {
		checkTree(t, x.p, x.want)
	}
}

// P5.1: sets between brackets.
func TestParseSets(t *testing.T) {
	not := func(bytes string) tree {
		return class(func(b byte) bool { return strings.IndexByte(bytes, b) < 0 })
	}
	for _, x := range []struct {
		p    string
		want tree
	}{
		{"[a]", of("a")}, {"[cba]", of("abc")}, {"[aa]", of("a")}, {"[a-c]", of("abc")}, {"[a-a]", of("a")}, {"[a-cx-z]", of("abcxyz")}, {"[a-db-e]", of("abcde")},
		{"[(]", of("(")}, {"[[]", of("[")}, {"[().*|]", of("().*|")}, {`[\]\\\^\-]`, of(`]\^-`)}, {`[\\-\]]`, of(`\]`)}, {`[\]-\^]`, of(`]^`)}, {`[\--0]`, of("-./0")}, {`[+-\-]`, of("+,-")}, {`[Z-\^]`, of(`Z[\]^`)}, {"[^a]", not("a")}, {`[^\^]`, not("^")}, {"[^a-y]", not("abcdefghijklmnopqrstuvwxy")},
		{"[ -~]", anyByte}, {"[^ -~]", nothing}, {"[^ -}]", of("~")}, {"[^!-~]", of(" ")}, {"[~-~]", of("~")}, {"[^ -@A-~]", nothing},
	} {
		checkTree(t, x.p, x.want)
	}
	if got, _, _ := pattern.Parse("[ ?@~]"); got.Set != [4]uint64{1<<32 | 1<<63, 1 | 1<<62, 0, 0} {
		t.Error(got.Set)
	}
}

// P5.1: the offsets of faults.
func TestParseFaults(t *testing.T) {
	for _, x := range []struct {
		p  string
		at int
	}{
		{"a**", 2}, {"(a", 2}, {"a)", 1}, {"[z-a]", 3},
		{"*", 0}, {"|", 0}, {")", 0}, {"]", 0}, {"a]", 1}, {"(", 1}, {"[", 1}, {`\`, 1}, {"a|", 2}, {"a||b", 2}, {"(|a)", 1}, {"(a|)", 3}, {"a|*", 2}, {"(*a)", 1}, {"()**", 3}, {"(a]", 2}, {"((a)", 4}, {"(()", 3},
		{`\a`, 1}, {`\^`, 1}, {`\-`, 1}, {`a\`, 2}, {"a\\\n", 2},
		{"[^]", 2}, {"[^", 2}, {"[a", 2}, {"[a-", 3}, {"[a-]", 3}, {"[-a]", 1}, {"[a--b]", 3}, {"[a-b-c]", 4}, {"[^^]", 2}, {"[a^]", 2}, {`[\a]`, 2}, {`[\(]`, 2}, {`[\`, 2},
		{`[z-\`, 3}, {`[_-\]]`, 3}, {`[a-\^]`, 3}, {`[\^-\]]`, 5}, {`[^-\]`, 2}, {`[\]-\\]`, 5}, {`[^\^-\`, 6}, {`[^b-a]`, 4}, {`[!- ]`, 3},
		{"a\x00", 1}, {"\x00", 0}, {"a\x7f", 1}, {"\x80", 0}, {"a\x1fb", 1}, {"[\x00]", 1}, {"[a-\xff]", 3}, {"\u00e9", 0}, {"(\t", 1}, {"a\n", 1},
	} {
		checkFault(t, x.p, x.at, api.ErrSyntax)
	}
}

// P5.1: the sizes.
func TestParseSizes(t *testing.T) {
	checkFault(t, "", 0, api.ErrSize)
	checkFault(t, strings.Repeat("a", api.MaxPattern+1), 0, api.ErrSize)
	checkFault(t, strings.Repeat("*", api.MaxPattern+1), 0, api.ErrSize)
	checkFault(t, strings.Repeat("\xff", 100000), 0, api.ErrSize)
	checkFault(t, strings.Repeat("(", api.MaxPattern), api.MaxPattern, api.ErrSyntax)
	checkFault(t, strings.Repeat("a", api.MaxPattern-1)+")", api.MaxPattern-1, api.ErrSyntax)
	letters := make([]tree, api.MaxPattern)
	for i := range letters {
		letters[i] = of("a")
	}
	checkTree(t, strings.Repeat("a", api.MaxPattern), cat(letters...))
	checkTree(t, strings.Repeat("(", 19)+"ab"+strings.Repeat(")", 19), cat(of("a"), of("b")))
}

func compareWithOracle(t *testing.T, p string) {
	t.Helper()
	if want, ok := readPattern(p); ok {
		checkTree(t, p, want)
	} else {
		checkFault(t, p, faultOf(p), api.ErrSyntax)
	}
}

// P5.1: all short texts.
func TestParseShortTexts(t *testing.T) {
	for _, p := range textsUpTo("()[].*|\\^-az\n", 4)[1:] {
		compareWithOracle(t, p)
	}
}

// P5.1: texts that consist of parts of patterns.
func TestParseLongerTexts(t *testing.T) {
	parts := []string{"(", ")", "[", "]", "[^", "-", "^", "\\", "*", "|", ".", "a", "z", "_", "()", "[]", "(a", "a)", "[a-z]", `\]`, `\-`, "[_-", "\x80"}
	source := rand.New(rand.NewSource(5))
	for range 30000 {
		p := ""
		for range 2 + source.Intn(7) {
			p += parts[source.Intn(len(parts))]
		}
		compareWithOracle(t, p)
	}
}

// Rule 5: a result is new memory.
func TestParseGivesNewMemory(t *testing.T) {
	first, _, _ := pattern.Parse("a|bc*")
	first.Subs[1].Subs[1].Subs[0] = nothing
	first.Subs[0] = nothing
	checkTree(t, "a|bc*", alt(of("a"), cat(of("b"), rep(of("c")))))
}
