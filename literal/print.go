package literal

import (
	"strconv"
	"strings"
	"unicode/utf8"

	"synthesis/api"
	"synthesis/value"
)

const hexDigits = "0123456789abcdef"

// PrintAll returns the literals of a tuple, separated by a comma and a space.
func PrintAll(l []api.Value) (string, api.Errno) {
	for _, v := range l {
		if e := value.Check(v); e != api.OK {
			return "", e
		}
	}
	var b strings.Builder
	writeAll(&b, l)
	return b.String(), api.OK
}

// Quote returns a text between double quotes, with escapes.
func Quote(s string) string {
	var b strings.Builder
	writeQuoted(&b, s)
	return b.String()
}

func writeAll(b *strings.Builder, l []api.Value) {
	for i, v := range l {
		if i > 0 {
			b.WriteString(", ")
		}
		writeValue(b, v)
	}
}

// writeValue writes the literal of v, which must be valid.
func writeValue(b *strings.Builder, v api.Value) {
	switch v.Type {
	case api.Bool:
		b.WriteString(strconv.FormatBool(v.Num == 1))
	case api.Int:
		b.WriteString(strconv.FormatInt(v.Num, 10))
	case api.Bits:
		b.WriteString("0x")
		writeHex(b, byte(v.Num))
	case api.Pattern:
		b.WriteByte('r')
		fallthrough
	case api.Text:
		writeQuoted(b, v.Text)
	case api.Ints:
		writeList(b, '[', v.Items, ']')
	case api.Texts:
		writeList(b, '{', v.Items, '}')
	case api.Table:
		writeList(b, '<', v.Items, '>')
	}
}

func writeList(b *strings.Builder, opening byte, items []api.Value, closing byte) {
	b.WriteByte(opening)
	writeAll(b, items)
	b.WriteByte(closing)
}

func writeQuoted(b *strings.Builder, s string) {
	b.WriteByte('"')
	for i, c := range s {
		if c < utf8.RuneSelf {
			writeEscaped(b, byte(c))
			continue
		}
		// A byte that is no UTF-8 comes as the same rune as the three bytes of U+FFFD, so only the length tells them apart.
		_, length := utf8.DecodeRuneInString(s[i:])
		for k := range length {
			writeEscaped(b, s[i+k])
		}
	}
	b.WriteByte('"')
}

func writeEscaped(b *strings.Builder, c byte) {
	switch {
	case c == '"' || c == '\\':
		b.WriteByte('\\')
		b.WriteByte(c)
	case isPrintable(rune(c)):
		b.WriteByte(c)
	default:
		b.WriteString(`\x`)
		writeHex(b, c)
	}
}

func writeHex(b *strings.Builder, c byte) {
	b.WriteByte(hexDigits[c>>4])
	b.WriteByte(hexDigits[c&15])
}

func isPrintable(c rune) bool { return ' ' <= c && c <= '~' }
