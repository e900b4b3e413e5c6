package strs

import (
	"strconv"
	"strings"

	"synthesis/api"
)

// Show returns the decimal digits of an integer.
func Show(n int64) string { return strconv.FormatInt(n, 10) }

// Read returns the integer that Show writes as s.
func Read(s string) (int64, api.Errno) {
	digits, negative := strings.CutPrefix(s, "-")
	if !isNumeral(digits) || negative && digits == "0" {
		return 0, api.ErrSyntax
	}
	var n int64
	for _, c := range digits {
		n = n*10 + int64(c-'0')
		if n > api.MaxInt {
			return 0, api.ErrRange
		}
	}
	if negative {
		n = -n
	}
	return n, api.OK
}

// isNumeral reports whether s is the numeral of an integer that is not negative.
func isNumeral(s string) bool {
	for _, c := range s {
		if c < '0' || c > '9' {
			return false
		}
	}
	return s == "0" || s != "" && s[0] != '0'
}
