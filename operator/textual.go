package operator

import (
	"slices"
	"strings"

	"synthesis/api"
	"synthesis/pattern"
	"synthesis/position"
	"synthesis/strs"
)

// ofTexts returns the definition of an operator of the family texts.
func ofTexts(name string) definition {
	t, n, l := textKind(), indexKind(), textsKind()
	switch name {
	case "concat":
		return two(t, t, t, sure2(func(a, b string) string { return a + b }))
	case "slice":
		return three(t, n, n, t, strs.Slice)
	case "len":
		return one(t, n, sure1(func(a string) int { return len(a) }))
	case "upper":
		return one(t, t, sure1(strs.Upper))
	case "lower":
		return one(t, t, sure1(strs.Lower))
	case "trim":
		return one(t, t, sure1(strs.Trim))
	case "find":
		return two(t, t, n, occurrence)
	case "replace":
		return three(t, t, t, t, strs.Replace)
	case "word":
		return two(t, n, t, strs.Word)
	case "char":
		return two(t, n, t, strs.Char)
	case "repeat":
		return two(t, n, t, strs.Repeat)
	case "show":
		return one(numberKind(), t, sure1(strs.Show))
	case "read":
		return one(t, numberKind(), strs.Read)
	case "eqtext":
		return two(t, t, boolKind(), same)
	case "split":
		return two(t, t, l, pieces)
	case "join":
		return two(l, t, t, sure2(strings.Join))
	case "item":
		return two(l, n, t, item)
	case "sorttexts":
		return one(l, l, sure1(ascending))
	case "revtexts":
		return one(l, l, sure1(opposite))
	}
	return definition{}
}

// occurrence returns the least occurrence of b in a.
func occurrence(a, b string) (int, api.Errno) {
	at := strs.Find(a, b)
	if at < 0 {
		return 0, api.ErrNone
	}
	return at, api.OK
}

// pieces returns what stands between the occurrences of b in a.
func pieces(a, b string) ([]string, api.Errno) {
	// strings.Split would take every byte as a piece.
	if b == "" {
		return nil, api.ErrForm
	}
	return strings.Split(a, b), api.OK
}

// item returns the element of l with the index k, which counts from the end if it is negative.
func item(l []string, k int) (string, api.Errno) {
	if k < 0 {
		k += len(l)
	}
	if k < 0 || k >= len(l) {
		return "", api.ErrNone
	}
	return l[k], api.OK
}

func ascending(l []string) []string {
	slices.Sort(l)
	return l
}

func opposite(l []string) []string {
	slices.Reverse(l)
	return l
}

// ofPatterns returns the definition of an operator of the family patterns. The functions take the pattern first, the operators the text.
func ofPatterns(name string) definition {
	t, p, n := textKind(), patternKind(), indexKind()
	switch name {
	case "start":
		return three(t, p, n, n, swapped3(position.Start))
	case "end":
		return three(t, p, n, n, swapped3(position.End))
	case "extract":
		return three(t, p, n, t, swapped3(position.Extract))
	case "erase":
		return two(t, p, t, swapped2(position.Erase))
	case "occurs":
		return two(t, p, n, swapped2(position.Count))
	case "matches":
		return two(t, p, boolKind(), swapped2(pattern.Match))
	case "plit":
		return one(t, p, sure1(pattern.Literal))
	case "pcat":
		return two(p, p, p, pattern.Concat)
	case "palt":
		return two(p, p, p, pattern.Alternate)
	case "pstar":
		return one(p, p, pattern.Star)
	}
	return definition{}
}
