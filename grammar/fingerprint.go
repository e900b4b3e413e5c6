package grammar

import (
	"strconv"
	"strings"

	"synthesis/api"
	"synthesis/literal"
)

// The numbers of the checksum, which is known as FNV-1a.
const (
	checksumStart  uint64 = 14695981039346656037
	checksumFactor uint64 = 1099511628211
)

// Fingerprint returns a checksum of a language.
func Fingerprint(l api.Language) (uint64, api.Errno) {
	if e := Check(l); e != api.OK {
		return 0, e
	}
	return checksum(summary(l)), api.OK
}

func checksum(s string) uint64 {
	sum := checksumStart
	for i := range len(s) {
		sum = (sum ^ uint64(s[i])) * checksumFactor
	}
	return sum
}

// summary returns the text of a valid language from which its fingerprint is computed.
func summary(l api.Language) string {
	var b strings.Builder
	b.WriteString(l.Name)
	b.WriteByte('\n')
	writeNumbers(&b, l.Inputs)
	b.WriteByte('\n')
	for _, s := range l.Symbols {
		b.WriteString(s.Name)
		b.WriteByte(':')
		writeNumbers(&b, []int{s.Type})
	}
	b.WriteByte('\n')
	for _, r := range l.Rules {
		writeRule(&b, r)
	}
	return b.String()
}

// writeNumbers writes each number and a comma.
func writeNumbers(b *strings.Builder, numbers []int) {
	for _, n := range numbers {
		b.WriteString(strconv.Itoa(n))
		b.WriteByte(',')
	}
}

func writeRule(b *strings.Builder, r api.Rule) {
	b.WriteString(strconv.Itoa(r.Symbol))
	b.WriteByte('=')
	switch r.Kind {
	case api.RuleInput:
		b.WriteString("in")
		b.WriteString(strconv.Itoa(r.Input))
	case api.RuleConst:
		// The constants of a valid language are valid, so all of them have literals.
		text, _ := literal.Print(r.Const)
		b.WriteString(text)
	case api.RuleOp:
		b.WriteString(r.Op)
		b.WriteByte('(')
		writeNumbers(b, r.Args)
		b.WriteByte(')')
	}
	b.WriteByte('\n')
}
