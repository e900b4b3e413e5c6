package pattern

import (
	"slices"
	"strings"

	"synthesis/api"
)

// Literal returns the pattern that matches s alone.
func Literal(s string) string {
	if s == "" {
		return "()"
	}
	if len(s) > api.MaxPattern {
		return ""
	}
	var b strings.Builder
	for i := range len(s) {
		if !inAlphabet(s[i]) {
			return ""
		}
		writeByte(&b, s[i])
	}
	p, _ := withinSize(b.String())
	return p
}

// Concat returns a pattern of the concatenations.
func Concat(p, q string) (string, api.Errno) {
	first, e := enclosed(p, Alt)
	if e != api.OK {
		return "", e
	}
	second, e := enclosed(q, Alt)
	if e != api.OK {
		return "", e
	}
	return withinSize(first + second)
}

// Alternate returns a pattern of the union.
func Alternate(p, q string) (string, api.Errno) {
	first, e := enclosed(p)
	if e != api.OK {
		return "", e
	}
	second, e := enclosed(q)
	if e != api.OK {
		return "", e
	}
	return withinSize(first + "|" + second)
}

// Star returns a pattern of the repetitions.
func Star(p string) (string, api.Errno) {
	repeated, e := enclosed(p, Cat, Alt, Rep)
	if e != api.OK {
		return "", e
	}
	return withinSize(repeated + "*")
}

// enclosed returns the pattern p, in parentheses if its tree is of one of the kinds.
func enclosed(p string, kinds ...int) (string, api.Errno) {
	t, _, e := Parse(p)
	if e != api.OK {
		return "", e
	}
	if slices.Contains(kinds, t.Kind) {
		return "(" + p + ")", api.OK
	}
	return p, api.OK
}
