package counting

import "synthesis/api"

// maxLevels is the greatest depth of nesting for which the document promises anything. A term that contains itself is deeper.
const maxLevels = 1 << 16

// isTerm reports whether t is a term of the symbol that has at most the given number of levels.
func isTerm(l api.Language, symbol int, t api.Term, levels int) bool {
	if levels == 0 || t.Rule < 0 || t.Rule >= len(l.Rules) {
		return false
	}
	r := l.Rules[t.Rule]
	if r.Symbol != symbol || len(t.Args) != len(r.Args) {
		return false
	}
	for i, arg := range t.Args {
		if !isTerm(l, r.Args[i], arg, levels-1) {
			return false
		}
	}
	return true
}

// sizeOf returns the number of rules in t.
func sizeOf(t api.Term) int {
	size := 1
	for _, arg := range t.Args {
		size += sizeOf(arg)
	}
	return size
}
