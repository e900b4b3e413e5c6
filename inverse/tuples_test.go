package inverse_test

import (
	"slices"
	"strings"
	"testing"

	"synthesis/api"
	"synthesis/inverse"
	"synthesis/operator"
	"synthesis/value"
)

// P10.1
func TestInvertible(t *testing.T) {
	invertible := strings.Fields("and or not neg concat upper lower show read revtexts reverse append running band bor bxor bnot badd bsub bmul")
	for _, name := range append(operator.Names(), strangers()...) {
		if got := inverse.Invertible(name); got != slices.Contains(invertible, name) {
			t.Errorf("Invertible(%q) is %v", name, got)
		}
	}
}

// P10.2: examples, and the edges of the ranges.
func TestTuples(t *testing.T) {
	many, none := all(times(257, no)), all()
	for _, x := range []struct {
		name string
		out  api.Value
		want [][]api.Value
	}{
		{"concat", s("ab"), all(of(s(""), s("ab")), of(s("a"), s("b")), of(s("ab"), s("")))},
		{"concat", s(""), all(of(s(""), s("")))},
		{"and", yes, all(of(yes, yes))},
		{"and", no, all(of(no, no), of(no, yes), of(yes, no))},
		{"or", yes, all(of(no, yes), of(yes, no), of(yes, yes))},
		{"not", no, alone(yes)},
		{"neg", n(1000000), alone(n(-1000000))},
		{"neg", n(0), alone(n(0))},
		{"upper", s("A"), alone(s("A"), s("a"))},
		{"upper", s("a"), none},
		{"upper", s("A-B"), alone(s("A-B"), s("A-b"), s("a-B"), s("a-b"))},
		{"upper", s("[Z`{@"), alone(s("[Z`{@"), s("[z`{@"))},
		{"upper", s("ABCDEFGHI"), many},
		{"upper", s("ABCDEFGHIj"), none},
		{"upper", s(strings.ToUpper(a64)), many},
		{"upper", s(strings.ToUpper(a64[1:]) + "a"), none},
		{"upper", s(""), alone(s(""))},
		{"lower", s("az"), alone(s("AZ"), s("Az"), s("aZ"), s("az"))},
		{"lower", s("aZ"), none},
		{"lower", s("[1`{@"), alone(s("[1`{@"))},
		{"lower", s(a64), many},
		{"lower", s(a64[1:] + "A"), none},
		{"show", s("-7"), alone(n(-7))},
		{"show", s("1000000"), alone(n(1000000))},
		{"show", s("1000001"), none},
		{"show", s("-0"), none},
		{"show", s(" 1"), none},
		{"show", s(strings.Repeat("9", 64)), none},
		{"read", n(-1000000), alone(s("-1000000"))},
		{"read", n(0), alone(s("0"))},
		{"revtexts", ls("a", "b", ""), alone(ls("", "b", "a"))},
		{"revtexts", ls(slices.Repeat([]string{a64}, 16)...), alone(ls(slices.Repeat([]string{a64}, 16)...))},
		{"reverse", l(1, 2, 3), alone(l(3, 2, 1))},
		{"reverse", l(), alone(l())},
		{"append", l(), all(of(l(), l()))},
		{"append", l(1, 2), all(of(l(), l(1, 2)), of(l(1), l(2)), of(l(1, 2), l()))},
		{"running", l(1, 3, 0), alone(l(1, 2, -3))},
		{"running", l(), alone(l())},
		{"running", l(1000000, 0, -1000000), alone(l(1000000, -1000000, -1000000))},
		{"running", l(1000000, -1), none},
		{"running", l(-500000, 500001), none},
		{"band", v(255), all(of(v(255), v(255)))},
		{"band", v(3), many},
		{"bor", v(0), all(of(v(0), v(0)))},
		{"bmul", v(0), many},
		{"bnot", v(1), alone(v(254))},
	} {
		want := api.OK
		if len(x.want) > 0 && len(x.want[0]) > api.MaxInverse {
			x.want, want = nil, api.ErrMany
		}
		if got, e := inverse.Tuples(x.name, x.out); !sameTuples(got, x.want) || e != want {
			t.Errorf("%s: %v has %d tuples, %v, %d", x.name, x.out, len(got), got, e)
		}
	}
}

// P10.2: the numbers of tuples at the limit.
func TestNumbersOfTuples(t *testing.T) {
	for _, x := range []struct {
		name string
		out  api.Value
		want int
	}{
		{"upper", s("ABCD1EFGH"), 256},
		{"lower", s("abcdefgh"), 256},
		{"lower", s(a64[:8] + strings.Repeat("-", 56)), 256},
		{"lower", s("abcdefghi"), -1},
		{"concat", s(a64), 65},
		{"append", value.OfInts(make([]int64, 16)), 17},
		{"band", v(7), 243},
		{"band", v(3), -1},
		{"band", v(0), -1},
		{"bor", v(31), 243},
		{"bor", v(63), -1},
		{"bxor", v(0), 256},
		{"badd", v(200), 256},
		{"bsub", v(1), 256},
		{"bmul", v(77), 128},
		{"bmul", v(2), 256},
		{"bmul", v(4), -1},
		{"bmul", v(128), -1},
	} {
		got, e := inverse.Tuples(x.name, x.out)
		if x.want < 0 && (e != api.ErrMany || len(got) > 0) || x.want >= 0 && (e != api.OK || len(got) != x.want) {
			t.Errorf("%s: %v has %d tuples, %d, not %d", x.name, x.out, len(got), e, x.want)
		}
	}
}

// P10.2, P10.6: all results out against the tuples of pools that contain all tuples for them.
func TestTuplesAgainstPools(t *testing.T) {
	bools, bits := of(no, yes), allBits()
	short, lists := textsOf(4, "ab"), intsOf(4, -1, 0)
	pairs, letters := textsOf(2, visible()), textsOf(3, "aAbBzZ@[`{")
	texts := each(value.OfTexts, listsOf(3, "", "a", "ab")...)
	for _, x := range []struct {
		name  string
		outs  []api.Value
		pools [][]api.Value
	}{
		{"and", bools, all(bools, bools)},
		{"or", bools, all(bools, bools)},
		{"not", bools, all(bools)},
		{"neg", numbers(-30, 30), all(numbers(-30, 30))},
		{"concat", short, all(short, short)},
		{"upper", pairs, all(pairs)},
		{"lower", pairs, all(pairs)},
		{"upper", letters, all(letters)},
		{"lower", letters, all(letters)},
		{"show", textsOf(3, "-+ 0129"), all(numbers(-1200, 1200))},
		{"read", numbers(-99, 999), all(textsOf(3, "-0123456789"))},
		{"revtexts", texts, all(texts)},
		{"reverse", intsOf(4, -1, 0, 2), all(intsOf(4, -1, 0, 2))},
		{"append", lists, all(lists, lists)},
		{"running", intsOf(3, -1, 0, 1), all(intsOf(3, -2, -1, 0, 1, 2))},
		{"band", bits, all(bits, bits)},
		{"bor", bits, all(bits, bits)},
		{"bxor", bits, all(bits, bits)},
		{"bnot", bits, all(bits)},
		{"badd", bits, all(bits, bits)},
		{"bsub", bits, all(bits, bits)},
		{"bmul", bits, all(bits, bits)},
	} {
		found := preimages(t, x.name, x.pools...)
		for _, out := range x.outs {
			want, wantE := found[key(out)], api.OK
			if len(want) > api.MaxInverse {
				want, wantE = nil, api.ErrMany
			}
			if got, e := inverse.Tuples(x.name, out); !sameTuples(got, want) || e != wantE {
				t.Fatalf("%s: %v has %v, %d, not %v, %d", x.name, out, got, e, want, wantE)
			}
		}
	}
}

// P10.2: the errors and their order.
func TestTuplesErrors(t *testing.T) {
	bad := api.Value{Type: api.Bool, Num: 2}
	for _, x := range []struct {
		name string
		out  api.Value
		want api.Errno
	}{
		{"plus", bad, api.ErrName},
		{"add", n(1), api.ErrNone},
		{"add", bad, api.ErrNone},
		{"less", yes, api.ErrNone},
		{"scale", s("a"), api.ErrNone},
		{"and", bad, api.ErrRange},
		{"concat", bad, api.ErrRange},
		{"concat", n(1), api.ErrType},
		{"concat", api.Value{}, api.ErrType},
		{"concat", api.Value{Type: api.Text, Num: 1}, api.ErrForm},
		{"concat", s(a64 + "a"), api.ErrSize},
		{"concat", value.OfPattern("a"), api.ErrType},
		{"upper", s("\n"), api.ErrRange},
		{"show", n(1), api.ErrType},
		{"read", s("1"), api.ErrType},
		{"band", n(255), api.ErrType},
		{"band", v(256), api.ErrRange},
		{"reverse", ls(), api.ErrType},
		{"running", value.OfInts(make([]int64, 17)), api.ErrSize},
	} {
		if got, e := inverse.Tuples(x.name, x.out); e != x.want || len(got) > 0 {
			t.Errorf("%s: %v has %v, %d, not %d", x.name, x.out, got, e, x.want)
		}
	}
	for _, name := range strangers() {
		if got, e := inverse.Tuples(name, yes); e != api.ErrName || len(got) > 0 {
			t.Errorf("%q: %v, %d", name, got, e)
		}
	}
	for _, name := range operator.Names() {
		o, _ := operator.Find(name)
		for typ := api.Bool; typ <= api.Pattern; typ++ {
			out, _ := value.Default(typ)
			want := api.ErrType
			if !inverse.Invertible(name) {
				want = api.ErrNone
			}
			if _, e := inverse.Tuples(name, out); e != want && (want == api.ErrNone || typ != o.Result) {
				t.Errorf("%s: %v: %d, not %d", name, out, e, want)
			}
		}
	}
}
