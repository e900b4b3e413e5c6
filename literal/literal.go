// Package literal is layer 2: literals of values. See shared/doc/02-literal.md.
package literal

import (
	"math"

	"synthesis/api"
)

// Print returns the literal of a valid value.
func Print(v api.Value) (string, api.Errno) { return PrintAll([]api.Value{v}) }

// Parse returns the value that a literal denotes, or the offset of the first fault.
func Parse(s string) (api.Value, int, api.Errno) {
	r := reader{text: s}
	v, ok := r.value()
	if !ok || !r.atEnd() {
		return api.Value{}, r.at, api.ErrSyntax
	}
	return v, 0, api.OK
}

// ParseAll reads what PrintAll writes.
func ParseAll(s string) ([]api.Value, int, api.Errno) {
	r := reader{text: s}
	tuple, ok := r.tuple()
	if !ok {
		return nil, r.at, api.ErrSyntax
	}
	return tuple, 0, api.OK
}

// Unquote reads what Quote writes.
func Unquote(s string) (string, int, api.Errno) {
	r := reader{text: s}
	text, ok := r.quoted(quotation{most: math.MaxInt, anyByte: true})
	if !ok || !r.atEnd() {
		return "", r.at, api.ErrSyntax
	}
	return text, 0, api.OK
}
