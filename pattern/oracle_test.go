package pattern_test

import (
	"strings"

	"synthesis/pattern"
)

// The functions of this file read patterns and match texts as the chapter defines it, by trying all ways to divide a text.

type tree = pattern.Tree

const alphabetSize = '~' - ' ' + 1

func inAlphabet(b byte) bool { return b >= ' ' && b <= '~' }

func class(test func(b byte) bool) tree {
	t := tree{Kind: pattern.Class}
	for b := byte(' '); b <= '~'; b++ {
		if test(b) {
			t.Set[b/64] |= 1 << (b % 64)
		}
	}
	if t.Set == [4]uint64{} {
		return tree{Kind: pattern.Nothing}
	}
	return t
}

func of(bytes string) tree {
	return class(func(b byte) bool { return strings.IndexByte(bytes, b) >= 0 })
}

func cat(subs ...tree) tree { return tree{Kind: pattern.Cat, Subs: subs} }

func alt(subs ...tree) tree { return tree{Kind: pattern.Alt, Subs: subs} }

func rep(sub tree) tree { return tree{Kind: pattern.Rep, Subs: []tree{sub}} }

var (
	nothing = tree{Kind: pattern.Nothing}
	empty   = tree{Kind: pattern.Empty}
	anyByte = class(inAlphabet)
)

// readPattern returns the tree of a pattern of any length.
func readPattern(s string) (tree, bool) {
	var cats []tree
	start := 0
	for i := 0; i <= len(s); i++ {
		if i < len(s) && s[i] != '|' {
			continue
		}
		if t, ok := readCat(s[start:i]); ok {
			cats = append(cats, t)
			start = i + 1
		}
	}
	return several(pattern.Alt, cats, start == len(s)+1)
}

func readCat(s string) (tree, bool) {
	var reps []tree
	start := 0
	for start < len(s) {
		end, t := longestRep(s, start)
		if end == start {
			return tree{}, false
		}
		reps = append(reps, t)
		start = end
	}
	return several(pattern.Cat, reps, true)
}

func several(kind int, subs []tree, ok bool) (tree, bool) {
	if !ok || len(subs) == 0 {
		return tree{}, false
	}
	if len(subs) == 1 {
		return subs[0], true
	}
	return tree{Kind: kind, Subs: subs}, true
}

func longestRep(s string, start int) (int, tree) {
	for end := len(s); end > start; end-- {
		if t, ok := readAtom(s[start:end]); ok {
			return end, t
		}
		if t, ok := readAtom(s[start : end-1]); ok && s[end-1] == '*' {
			return end, rep(t)
		}
	}
	return start, tree{}
}

func readAtom(s string) (tree, bool) {
	switch {
	case s == "()":
		return empty, true
	case s == "[]":
		return nothing, true
	case s == ".":
		return anyByte, true
	case len(s) == 1 && inAlphabet(s[0]) && !strings.Contains(`()[].*|\`, s):
		return of(s), true
	case len(s) == 2 && s[0] == '\\' && strings.Contains(`()[].*|\`, s[1:]):
		return of(s[1:]), true
	case len(s) > 2 && s[0] == '(' && s[len(s)-1] == ')' && isOneGroup(s):
		return readPattern(s[1 : len(s)-1])
	case len(s) > 2 && s[0] == '[' && s[len(s)-1] == ']':
		return readItems(s[1 : len(s)-1])
	}
	return tree{}, false
}

// isOneGroup reports whether the first parenthesis of s is closed by its last one.
func isOneGroup(s string) bool {
	open := 0
	for i := 0; i < len(s); i++ {
		switch s[i] {
		case '\\':
			i++
		case '[':
			for i++; i < len(s) && s[i] != ']'; i++ {
				if s[i] == '\\' {
					i++
				}
			}
		case '(':
			open++
		case ')':
			open--
			if open == 0 {
				return i == len(s)-1
			}
		}
	}
	return false
}

func readItems(s string) (tree, bool) {
	rest, negated := strings.CutPrefix(s, "^")
	if rest == "" {
		return tree{}, false
	}
	var in [256]bool
	for rest != "" {
		first, after, ok := cutMember(rest)
		if !ok {
			return tree{}, false
		}
		last := first
		if strings.HasPrefix(after, "-") {
			last, after, ok = cutMember(after[1:])
			if !ok || last < first {
				return tree{}, false
			}
		}
		for b := int(first); b <= int(last); b++ {
			in[b] = true
		}
		rest = after
	}
	return class(func(b byte) bool { return in[b] != negated }), true
}

func cutMember(s string) (byte, string, bool) {
	switch {
	case len(s) >= 2 && s[0] == '\\' && strings.IndexByte(`]\^-`, s[1]) >= 0:
		return s[1], s[2:], true
	case len(s) >= 1 && inAlphabet(s[0]) && strings.IndexByte(`]\^-`, s[0]) < 0:
		return s[0], s[1:], true
	}
	return 0, "", false
}

// canBegin reports whether some pattern begins with s.
func canBegin(s string) bool {
	closing := ""
	for range strings.Count(s, "(") + 1 {
		for _, next := range []string{"", "a", "]", "~]", "^]", "^", "-]", "("} {
			if _, ok := readPattern(s + next + closing); ok {
				return true
			}
		}
		closing += ")"
	}
	return false
}

// faultOf returns the number of bytes of the longest beginning of s with which some pattern begins.
func faultOf(s string) int {
	n := 0
	for n < len(s) && canBegin(s[:n+1]) {
		n++
	}
	return n
}

// accepts reports whether a tree matches s.
func accepts(t tree, s string) bool {
	switch t.Kind {
	case pattern.Empty:
		return s == ""
	case pattern.Class:
		return len(s) == 1 && t.Set[s[0]/64]>>(s[0]%64)&1 == 1
	case pattern.Cat:
		return acceptsAll(t.Subs, s)
	case pattern.Alt:
		for _, sub := range t.Subs {
			if accepts(sub, s) {
				return true
			}
		}
	case pattern.Rep:
		if s == "" {
			return true
		}
		for i := 1; i <= len(s); i++ {
			if accepts(t.Subs[0], s[:i]) && accepts(t, s[i:]) {
				return true
			}
		}
	}
	return false
}

func acceptsAll(subs []tree, s string) bool {
	if len(subs) == 0 {
		return s == ""
	}
	for i := 0; i <= len(s); i++ {
		if accepts(subs[0], s[:i]) && acceptsAll(subs[1:], s[i:]) {
			return true
		}
	}
	return false
}

// textsUpTo returns all texts of at most n of the given bytes, in the order of texts if the bytes ascend.
func textsUpTo(bytes string, n int) []string {
	all := []string{""}
	last := all
	for range n {
		var next []string
		for _, s := range last {
			for i := range len(bytes) {
				next = append(next, s+bytes[i:i+1])
			}
		}
		all = append(all, next...)
		last = next
	}
	return all
}

// patternsUpTo returns the patterns of at most n of the given bytes, with their trees.
func patternsUpTo(bytes string, n int) ([]string, []tree) {
	var patterns []string
	var trees []tree
	for _, p := range textsUpTo(bytes, n) {
		if t, ok := readPattern(p); ok {
			patterns = append(patterns, p)
			trees = append(trees, t)
		}
	}
	return patterns, trees
}
