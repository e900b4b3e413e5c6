package term_test

import (
	"math"
	"slices"
	"strings"
	"testing"

	"synthesis/api"
	"synthesis/grammar"
	"synthesis/term"
)

// P13.5, P13.7: all paths in all terms of any form with few rules.
func TestPaths(t *testing.T) {
	x := node(-9, leaf(20), leaf(-30))
	for _, y := range formsUpTo(5, -1, 0) {
		isReached := map[string]bool{}
		for _, path := range paths(y) {
			s, e := term.At(y, path)
			if e != api.OK {
				t.Fatalf("At of %s and %v is %d", write(y), path, e)
			}
			isReached[write(s)] = true
			checkReplace(t, y, path, s, x)
		}
		if n := len(term.Subterms(y)); len(isReached) != n {
			t.Fatalf("the paths in %s lead to %d subterms, not to %d", write(y), len(isReached), n)
		}
	}
}

// checkReplace checks that Replace puts x in place of the subterm s of y, to which the path leads, and changes nothing else.
func checkReplace(t *testing.T, y api.Term, path []int, s, x api.Term) {
	t.Helper()
	z, e := term.Replace(y, path, x)
	if e != api.OK || term.Size(z) != term.Size(y)-term.Size(s)+term.Size(x) {
		t.Fatalf("Replace of %s and %v is %s, %d", write(y), path, write(z), e)
	}
	if got, e := term.At(z, path); e != api.OK || term.Compare(got, x) != 0 {
		t.Fatalf("At of Replace of %s and %v is %s, %d", write(y), path, write(got), e)
	}
	// x occurs once, so its text may be put back.
	if got := strings.Replace(write(z), write(x), write(s), 1); got != write(y) {
		t.Fatalf("Replace of %s and %v is %s", write(y), path, write(z))
	}
	if same, e := term.Replace(y, path, s); e != api.OK || term.Compare(same, y) != 0 {
		t.Fatalf("Replace of %s and %v by what is there is %s, %d", write(y), path, write(same), e)
	}
}

// P13.5: to which subterm a path leads.
func TestPathsLead(t *testing.T) {
	y := node(1, node(2, leaf(3), leaf(4)), leaf(5), node(6, node(7, leaf(8))))
	for _, x := range []struct {
		path []int
		rule int
	}{{nil, 1}, {[]int{}, 1}, {[]int{0}, 2}, {[]int{0, 0}, 3}, {[]int{0, 1}, 4}, {[]int{1}, 5}, {[]int{2}, 6}, {[]int{2, 0}, 7}, {[]int{2, 0, 0}, 8}} {
		before := slices.Clone(x.path)
		if got, e := term.At(y, x.path); e != api.OK || got.Rule != x.rule {
			t.Errorf("At of %v is %s, %d", x.path, write(got), e)
		}
		if got, e := term.Replace(y, x.path, leaf(9)); e != api.OK || !slices.Contains(term.Rules(got), 9) || slices.Contains(term.Rules(got), x.rule) {
			t.Errorf("Replace of %v is %s, %d", x.path, write(got), e)
		}
		if !slices.Equal(x.path, before) {
			t.Errorf("%v is changed", before)
		}
	}
	if got, e := term.At(node(1, leaf(0), leaf(0)), []int{1}); e != api.OK || !isEmpty(got) {
		t.Error(write(got), e)
	}
}

// P13.5: paths that do not lead to a subterm.
func TestPathErrors(t *testing.T) {
	y := node(1, node(2, leaf(3), leaf(4)), leaf(5))
	for _, path := range [][]int{{2}, {-1}, {math.MinInt}, {math.MaxInt}, {1, 0}, {1, -1}, {0, 2}, {0, -1}, {0, 0, 0}, {2, 0}, {-1, 0}, {0, 1, 0, 0}, make([]int, 1<<16)} {
		if got, e := term.At(y, path); e != api.ErrNone || !isEmpty(got) {
			t.Errorf("At of %v is %s, %d", path, write(got), e)
		}
		if got, e := term.Replace(y, path, leaf(9)); e != api.ErrNone || !isEmpty(got) {
			t.Errorf("Replace of %v is %s, %d", path, write(got), e)
		}
	}
	if got, e := term.At(node(1, leaf(0), leaf(0)), []int{2}); e != api.ErrNone || !isEmpty(got) {
		t.Error(write(got), e)
	}
}

// P13.5: deep terms.
func TestPathsOfDeep(t *testing.T) {
	const levels = 1<<16 - 1
	deep := chain(2, levels, leaf(3))
	path := make([]int, levels)
	if got, e := term.At(deep, path); e != api.OK || got.Rule != 3 || len(got.Args) != 0 {
		t.Error(got.Rule, e)
	}
	if got, e := term.Replace(deep, path, leaf(4)); e != api.OK || term.Compare(got, chain(2, levels, leaf(4))) != 0 {
		t.Error(e)
	}
	if _, e := term.At(deep, append(path, 0)); e != api.ErrNone {
		t.Error(e)
	}
}

// DOC.md, rule 5: results share no memory with the arguments or with each other, and arguments stay as they are.
func TestMemory(t *testing.T) {
	l := sums()
	y := node(1, node(2, leaf(0)), node(1, leaf(0), node(2, leaf(0))))
	x := node(1, node(2, leaf(0)), leaf(0))
	textY, textX := write(y), write(x)
	results := func() []api.Term {
		at, _ := term.At(y, []int{1})
		whole, _ := term.At(y, nil)
		replaced, _ := term.Replace(y, []int{1, 0}, x)
		top, _ := term.Replace(y, nil, x)
		built, _ := term.Build(l, term.Rules(y))
		return append(term.Subterms(y), at, whole, replaced, top, built)
	}
	want := results()
	for i := range want {
		got := results()
		spoil(got[i])
		for k := range want {
			if k != i && write(got[k]) != write(want[k]) {
				t.Errorf("the results %d and %d share memory", i, k)
			}
		}
		if write(y) != textY || write(x) != textX {
			t.Fatalf("the result %d shares memory with an argument", i)
		}
	}
	for i := range want {
		got := results()[i]
		for k := range got.Args {
			before := write(node(0, got.Args[k+1:]...))
			spoil(got.Args[k])
			if after := write(node(0, got.Args[k+1:]...)); after != before {
				t.Errorf("arguments of the result %d share memory", i)
			}
		}
	}
	// In these arguments, both subterms are one.
	if got, e := term.Replace(node(1, x, x), []int{0, 1}, leaf(7)); e != api.OK || write(got.Args[1]) != textX || write(x) != textX {
		t.Error(write(got), e)
	}
	if term.Check(l, 0, y); !grammar.Same(l, sums()) || write(y) != textY {
		t.Error("an argument is changed")
	}
}
