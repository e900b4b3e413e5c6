package strs

import (
	"strings"

	"synthesis/api"
)

// Upper returns s with capital letters.
func Upper(s string) string { return shiftLetters(s, 'a', 'A') }

// Lower returns s with small letters.
func Lower(s string) string { return shiftLetters(s, 'A', 'a') }

// Trim returns s without spaces at both ends.
func Trim(s string) string { return strings.Trim(s, " ") }

// Replace replaces all occurrences from the left.
func Replace(s, old, with string) (string, api.Errno) {
	if old == "" {
		return "", api.ErrForm
	}
	var b strings.Builder
	for {
		at := strings.Index(s, old)
		if at < 0 {
			break
		}
		if b.Len()+at+len(with) > api.MaxText {
			return "", api.ErrSize
		}
		b.WriteString(s[:at])
		b.WriteString(with)
		s = s[at+len(old):]
	}
	if b.Len()+len(s) > api.MaxText {
		return "", api.ErrSize
	}
	return b.String() + s, api.OK
}

// Repeat returns n copies of s.
func Repeat(s string, n int) (string, api.Errno) {
	if n < 0 {
		return "", api.ErrRange
	}
	if s == "" {
		return "", api.OK
	}
	// A product of the two lengths could overflow.
	if n > api.MaxText/len(s) {
		return "", api.ErrSize
	}
	return strings.Repeat(s, n), api.OK
}

// shiftLetters replaces the 26 letters from first on by those from replacement on.
func shiftLetters(s string, first, replacement rune) string {
	changed := []byte(s)
	// A byte below 128 is always a rune of its own, even next to bytes that are not UTF-8.
	for i, c := range s {
		if first <= c && c < first+26 {
			changed[i] = byte(c - first + replacement)
		}
	}
	return string(changed)
}
