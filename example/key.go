package example

import (
	"strconv"
	"strings"

	"synthesis/api"
)

// key returns a text that two examples share exactly if they are equal.
// It is not made of literals, since the values of an example need not be valid.
func key(x api.Example) string {
	var b strings.Builder
	writeKeys(&b, x.Inputs)
	writeKey(&b, x.Output)
	return b.String()
}

// tupleKey returns a text that two tuples share exactly if they are equal.
func tupleKey(tuple []api.Value) string {
	var b strings.Builder
	writeKeys(&b, tuple)
	return b.String()
}

func writeKeys(b *strings.Builder, values []api.Value) {
	writeNumber(b, int64(len(values)))
	for _, v := range values {
		writeKey(b, v)
	}
}

// writeKey writes all fields of a value. What has no fixed length is preceded by its length, so that no two values have the same text.
func writeKey(b *strings.Builder, v api.Value) {
	writeNumber(b, int64(v.Type))
	writeNumber(b, v.Num)
	writeNumber(b, int64(len(v.Text)))
	b.WriteString(v.Text)
	writeKeys(b, v.Items)
}

func writeNumber(b *strings.Builder, n int64) {
	b.WriteString(strconv.FormatInt(n, 10))
	b.WriteByte(' ')
}
