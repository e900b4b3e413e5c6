package pattern_test

import (
	"reflect"
	"strings"
	"testing"

	"synthesis/api"
	"synthesis/pattern"
)

func checkPrint(t *testing.T, x tree, want string, wantError api.Errno) {
	t.Helper()
	if got, e := pattern.Print(x); got != want || e != wantError {
		t.Errorf("Print(%v) is %q, %d, not %q, %d", x, got, e, want, wantError)
	}
}

// P5.2: the texts of Classes.
func TestPrintClasses(t *testing.T) {
	for _, x := range []struct{ bytes, want string }{
		{"a", "a"}, {" ", " "}, {"~", "~"}, {"^", "^"}, {"-", "-"}, {".", `\.`}, {"*", `\*`}, {"(", `\(`}, {")", `\)`}, {"[", `\[`}, {"]", `\]`}, {"|", `\|`}, {`\`, `\\`},
		{"ab", "[ab]"}, {"abc", "[a-c]"}, {"abcd", "[a-d]"}, {"ac", "[ac]"}, {"abd", "[abd]"}, {"zcba", "[a-cz]"}, {"abxyz", "[abx-z]"},
		{"[\\]^", `[[-\^]`}, {`\]`, `[\\\]]`}, {`]^`, `[\]\^]`}, {"-.", `[\-.]`}, {"+,-", `[+-\-]`}, {"-./", `[\--/]`}, {`\]^`, `[\\-\^]`}, {"*+", "[*+]"}, {"(|", "[(|]"}, {" ~", "[ ~]"},
	} {
		checkPrint(t, of(x.bytes), x.want, api.OK)
	}
	checkPrint(t, anyByte, ".", api.OK)
	checkPrint(t, class(func(b byte) bool { return b != '~' }), "[ -}]", api.OK)
	checkPrint(t, class(func(b byte) bool { return b != ' ' }), "[!-~]", api.OK)
	checkPrint(t, class(func(b byte) bool { return b != 'a' }), "[ -`b-~]", api.OK)
}

// P5.2: where the parentheses are.
func TestPrintTrees(t *testing.T) {
	a, b, c := of("a"), of("b"), of("c")
	for _, x := range []struct {
		t    tree
		want string
	}{
		{nothing, "[]"}, {empty, "()"}, {rep(nothing), "[]*"}, {rep(empty), "()*"},
		{cat(a, b), "ab"}, {cat(a, cat(b, c)), "a(bc)"}, {cat(cat(a, b), c), "(ab)c"}, {cat(a, alt(b, c)), "a(b|c)"}, {cat(rep(a), rep(b)), "a*b*"}, {cat(empty, nothing), "()[]"},
		{alt(a, b), "a|b"}, {alt(a, cat(b, c)), "a|bc"}, {alt(alt(a, b), c), "(a|b)|c"}, {alt(a, rep(b)), "a|b*"}, {alt(empty, nothing), "()|[]"},
		{rep(a), "a*"}, {rep(of("ab")), "[ab]*"}, {rep(rep(a)), "(a*)*"}, {rep(cat(a, b)), "(ab)*"}, {rep(alt(a, b)), "(a|b)*"}, {rep(rep(rep(a))), "((a*)*)*"},
		{alt(cat(of("abc"), of("x")), of("y")), "[a-c]x|y"},
	} {
		checkPrint(t, x.t, x.want, api.OK)
	}
}

// P5.2: trees that are not proper.
func TestPrintImproper(t *testing.T) {
	a := of("a")
	control := a
	control.Set[0] |= 1
	var shapes []tree
	for _, set := range [][4]uint64{{1 << 31}, {0, 1 << 63}, {0, 0, 1}, {0, 0, 0, 1 << 63}, {1}} {
		shapes = append(shapes, tree{Kind: pattern.Class, Set: set})
	}
	for _, kind := range []int{pattern.Nothing, pattern.Empty, pattern.Cat, pattern.Alt, pattern.Rep} {
		subs := map[int][]tree{pattern.Cat: {a, a}, pattern.Alt: {a, a}, pattern.Rep: {a}}[kind]
		shapes = append(shapes, tree{Kind: kind, Set: a.Set, Subs: subs}, tree{Kind: kind, Set: [4]uint64{0, 0, 0, 1}, Subs: subs})
	}
	for _, kind := range []int{-1, 0, 7, 1 << 40, -1 << 63} {
		shapes = append(shapes, tree{Kind: kind}, tree{Kind: kind, Set: a.Set}, tree{Kind: kind, Subs: []tree{a, a}})
	}
	shapes = append(shapes, control, tree{}, tree{Kind: pattern.Class}, cat(), cat(a), alt(), alt(a), tree{Kind: pattern.Rep}, tree{Kind: pattern.Rep, Subs: []tree{a, a}},
		tree{Kind: pattern.Nothing, Subs: []tree{a}}, tree{Kind: pattern.Empty, Subs: []tree{a}}, tree{Kind: pattern.Class, Set: a.Set, Subs: []tree{a}})
	long := cat(a, rep(cat(a, a, a, a, a, a, a, a, a, a, a, a, a, a, a, a, a, a, a, a, a, a, a, a, a, a, a, a, a, a, a, a, a, a, a, a, a, a, a, a, a, a)))
	for _, x := range shapes {
		for _, y := range []tree{x, rep(x), cat(a, x), cat(x, a), alt(a, x), alt(x, rep(a)), rep(cat(a, a, x)), cat(long, x)} {
			checkPrint(t, y, "", api.ErrForm)
		}
	}
}

// P5.2: the sizes.
func TestPrintSizes(t *testing.T) {
	a := of("a")
	letters := func(n int) tree {
		subs := make([]tree, n)
		for i := range subs {
			subs[i] = a
		}
		return cat(subs...)
	}
	checkPrint(t, letters(40), strings.Repeat("a", 40), api.OK)
	checkPrint(t, letters(41), "", api.ErrSize)
	checkPrint(t, letters(1000000), "", api.ErrSize)
	checkPrint(t, rep(letters(37)), "("+strings.Repeat("a", 37)+")*", api.OK)
	checkPrint(t, rep(letters(38)), "", api.ErrSize)
	checkPrint(t, alt(letters(20), letters(19)), strings.Repeat("a", 20)+"|"+strings.Repeat("a", 19), api.OK)
	checkPrint(t, alt(letters(20), letters(20)), "", api.ErrSize)
	checkPrint(t, cat(letters(36), of("[")), "("+strings.Repeat("a", 36)+`)\[`, api.OK)
	checkPrint(t, cat(letters(37), of("[")), "", api.ErrSize)
	scattered := class(func(b byte) bool { return b%2 == 0 })
	checkPrint(t, scattered, "", api.ErrSize)
	deep := a
	for range 1 << 16 {
		deep = rep(deep)
	}
	checkPrint(t, deep, "", api.ErrSize)
	deep.Subs[0].Subs[0].Kind = pattern.Cat
	checkPrint(t, deep, "", api.ErrForm)
}

// Rule 1: a tree that contains itself.
func TestPrintOfEndlessTree(t *testing.T) {
	subs := make([]tree, 2)
	subs[0] = tree{Kind: pattern.Cat, Subs: subs}
	subs[1] = tree{Kind: pattern.Alt, Subs: subs}
	checkPrint(t, subs[0], "", api.ErrForm)
}

// smallTrees returns proper trees of at most a depth.
func smallTrees(depth int) []tree {
	all := []tree{nothing, empty, of("a"), of("*"), of("-^"), anyByte}
	if depth == 0 {
		return all
	}
	subs := smallTrees(depth - 1)
	for _, x := range subs {
		all = append(all, rep(x))
		for _, y := range subs {
			all = append(all, cat(x, y), alt(x, y))
		}
	}
	for i, x := range subs {
		y, z := subs[(i*7+1)%len(subs)], subs[(i*5+2)%len(subs)]
		all = append(all, cat(x, y, z), alt(z, x, y))
	}
	return all
}

// P5.9: Parse of Print.
func TestPrintIsParsed(t *testing.T) {
	for _, x := range smallTrees(2) {
		p, e := pattern.Print(x)
		if e == api.ErrSize && p == "" {
			continue
		}
		if e != api.OK {
			t.Fatalf("Print(%v) fails with %d", x, e)
		}
		checkTree(t, p, x)
	}
}

// P5.9: Print of Parse.
func TestParseIsPrinted(t *testing.T) {
	patterns, trees := patternsUpTo("()[].*|^ab", 5)
	for i, p := range patterns {
		q, e := pattern.Print(trees[i])
		if e != api.OK {
			t.Fatalf("Print of the tree of %q is %q, %d", p, q, e)
		}
		if x, _, _ := pattern.Parse(q); !reflect.DeepEqual(x, trees[i]) {
			t.Fatalf("%q has the tree %v, and %q has %v", p, trees[i], q, x)
		}
		if same, e := pattern.Same(p, q); !same || e != api.OK {
			t.Fatalf("Same(%q, %q) is %v, %d", p, q, same, e)
		}
	}
}

// Rule 5: an argument is not changed.
func TestPrintKeepsTree(t *testing.T) {
	x := alt(cat(of("abc"), of("x")), rep(of("y")))
	checkPrint(t, x, "[a-c]x|y*", api.OK)
	if !reflect.DeepEqual(x, alt(cat(of("abc"), of("x")), rep(of("y")))) {
		t.Error(x)
	}
}
