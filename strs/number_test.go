package strs

import (
	"math"
	"strconv"
	"strings"
	"testing"

	"synthesis/api"
)

// P4.5
func TestShow(t *testing.T) {
	for n, want := range map[int64]string{
		0: "0", 7: "7", -7: "-7", 10: "10", -120: "-120", 1000001: "1000001",
		math.MaxInt64: "9223372036854775807", math.MinInt64: "-9223372036854775808",
	} {
		if Show(n) != want {
			t.Errorf("Show(%d) is %q", n, Show(n))
		}
	}
}

// P4.5
func TestRead(t *testing.T) {
	type result struct {
		n int64
		e api.Errno
	}
	for s, want := range map[string]result{
		"0": {0, api.OK}, "1": {1, api.OK}, "-1": {-1, api.OK}, "120": {120, api.OK},
		"999999": {999999, api.OK}, "1000000": {1000000, api.OK}, "1000001": {0, api.ErrRange},
		"-1000000": {-1000000, api.OK}, "-1000001": {0, api.ErrRange}, "10000000": {0, api.ErrRange},
		"9223372036854775807": {0, api.ErrRange}, "9223372036854775808": {0, api.ErrRange},
		"18446744073709551616": {0, api.ErrRange}, "18446744073709551617": {0, api.ErrRange},
		"-18446744073709551615":          {0, api.ErrRange},
		"1" + strings.Repeat("0", 1000):  {0, api.ErrRange},
		"-" + strings.Repeat("9", 1000):  {0, api.ErrRange},
		strings.Repeat("9", 1000) + "a":  {0, api.ErrSyntax},
		"0" + strings.Repeat("0", 1000):  {0, api.ErrSyntax},
		"10000000000000000000000000000 ": {0, api.ErrSyntax},
		"-100000000000000000000000000-":  {0, api.ErrSyntax},
		"00":                             {0, api.ErrSyntax}, "01": {0, api.ErrSyntax}, "-0": {0, api.ErrSyntax}, "-01": {0, api.ErrSyntax},
		"": {0, api.ErrSyntax}, "-": {0, api.ErrSyntax}, "--1": {0, api.ErrSyntax}, "+1": {0, api.ErrSyntax},
		" 1": {0, api.ErrSyntax}, "1 ": {0, api.ErrSyntax}, "1_0": {0, api.ErrSyntax}, "0x1": {0, api.ErrSyntax},
		"1e3": {0, api.ErrSyntax}, "1.0": {0, api.ErrSyntax}, "/": {0, api.ErrSyntax}, ":": {0, api.ErrSyntax},
		"\u0661": {0, api.ErrSyntax}, "1\xff": {0, api.ErrSyntax}, "\x001": {0, api.ErrSyntax},
	} {
		if n, e := Read(s); n != want.n || e != want.e {
			t.Errorf("Read(%q) = %d, %d, not %d, %d", s, n, e, want.n, want.e)
		}
	}
}

// P4.5: what Read accepts is what Show writes.
func TestReadAcceptsWhatShowWrites(t *testing.T) {
	for _, s := range shortTexts("-+019 a", 4) {
		number, failed := strconv.ParseInt(s, 10, 64)
		isShown := failed == nil && strconv.FormatInt(number, 10) == s
		n, e := Read(s)
		if isShown && (n != number || e != api.OK) || !isShown && (n != 0 || e != api.ErrSyntax) {
			t.Fatalf("Read(%q) = %d, %d", s, n, e)
		}
	}
}

// P4.7
func TestReadOfShow(t *testing.T) {
	for n := int64(-api.MaxInt); n <= api.MaxInt; n++ {
		if got, e := Read(Show(n)); got != n || e != api.OK {
			t.Fatalf("Read of Show of %d = %d, %d", n, got, e)
		}
	}
}
