package operator_test

import (
	"strings"
	"testing"

	"synthesis/api"
	"synthesis/operator"
	"synthesis/value"
)

// undefined is the result of Apply together with an error.
var undefined = api.Value{}

// P9.2, logic and numbers.
func TestLogicAndNumbers(t *testing.T) {
	yes, no := value.OfBool(true), value.OfBool(false)
	checkApplyCases(t, []applyCase{
		{"and", of(yes, yes), yes},
		{"and", of(yes, no), no},
		{"and", of(no, yes), no},
		{"and", of(no, no), no},
		{"or", of(yes, yes), yes},
		{"or", of(yes, no), yes},
		{"or", of(no, yes), yes},
		{"or", of(no, no), no},
		{"not", of(yes), no},
		{"not", of(no), yes},
		{"ifint", of(yes, n(1), n(2)), n(1)},
		{"ifint", of(no, n(1), n(2)), n(2)},
		{"iftext", of(yes, s("a"), s("b")), s("a")},
		{"iftext", of(no, s("a"), s("b")), s("b")},
		{"ifbits", of(yes, v(1), v(2)), v(1)},
		{"ifbits", of(no, v(1), v(2)), v(2)},
		{"add", of(n(999999), n(1)), n(1000000)},
		{"add", of(n(1000000), n(1)), undefined},
		{"add", of(n(-1000000), n(-1)), undefined},
		{"add", of(n(1000000), n(-1000000)), n(0)},
		{"sub", of(n(3), n(5)), n(-2)},
		{"sub", of(n(-1000000), n(1)), undefined},
		{"sub", of(n(0), n(-1000000)), n(1000000)},
		{"mul", of(n(-1000), n(1000)), n(-1000000)},
		{"mul", of(n(1000000), n(2)), undefined},
		{"mul", of(n(1000000), n(1000000)), undefined},
		{"mul", of(n(-1001), n(1000)), undefined},
		{"neg", of(n(1000000)), n(-1000000)},
		{"neg", of(n(0)), n(0)},
		{"min", of(n(-2), n(1)), n(-2)},
		{"max", of(n(-2), n(1)), n(1)},
		{"eqint", of(n(1), n(1)), yes},
		{"eqint", of(n(1), n(-1)), no},
		{"less", of(n(-2), n(1)), yes},
		{"less", of(n(1), n(-2)), no},
		{"less", of(n(1), n(1)), no},
	})
}

// P9.2, texts.
func TestTexts(t *testing.T) {
	yes, no := value.OfBool(true), value.OfBool(false)
	commas := strings.Repeat(",", 15)
	checkApplyCases(t, []applyCase{
		{"concat", of(s("ab"), s("c")), s("abc")},
		{"concat", of(s(a64), s("")), s(a64)},
		{"concat", of(s(a64), s("a")), undefined},
		{"slice", of(s("abcd"), n(1), n(3)), s("bc")},
		{"slice", of(s("abcd"), n(3), n(1)), undefined},
		{"len", of(s("")), n(0)},
		{"len", of(s(a64)), n(64)},
		{"upper", of(s("aZ[{1 z`")), s("AZ[{1 Z`")},
		{"lower", of(s("aZ[@1 A")), s("az[@1 a")},
		{"trim", of(s("  a  b ")), s("a  b")},
		{"find", of(s("abcabc"), s("bc")), n(1)},
		{"find", of(s("abc"), s("x")), undefined},
		{"find", of(s("abc"), s("")), n(0)},
		{"find", of(s("x"), s("abc")), undefined},
		{"replace", of(s("aaa"), s("aa"), s("b")), s("ba")},
		{"replace", of(s("abc"), s(""), s("b")), undefined},
		{"replace", of(s(a64), s("a"), s("bb")), undefined},
		{"word", of(s("ada  lovelace "), n(-1)), s("lovelace")},
		{"word", of(s("ada"), n(1)), undefined},
		{"char", of(s("abc"), n(-3)), s("a")},
		{"char", of(s("abc"), n(3)), undefined},
		{"repeat", of(s("ab"), n(3)), s("ababab")},
		{"repeat", of(s("ab"), n(33)), undefined},
		{"repeat", of(s("ab"), n(-1)), undefined},
		{"repeat", of(s(""), n(1000000)), s("")},
		{"show", of(n(-1000000)), s("-1000000")},
		{"read", of(s("-7")), n(-7)},
		{"read", of(s("07")), undefined},
		{"read", of(s("1000001")), undefined},
		{"eqtext", of(s("a"), s("a")), yes},
		{"eqtext", of(s("a"), s("A")), no},
		{"split", of(s("a,,b"), s(",")), ls("a", "", "b")},
		{"split", of(s("aaa"), s("aa")), ls("", "a")},
		{"split", of(s("abc"), s("x")), ls("abc")},
		{"split", of(s(""), s("x")), ls("")},
		{"split", of(s("ab"), s("ab")), ls("", "")},
		{"split", of(s("abc"), s("")), undefined},
		{"split", of(s(""), s("")), undefined},
		{"split", of(s(commas), s(",")), ls(strings.Split(commas, ",")...)},
		{"split", of(s(commas+","), s(",")), undefined},
		{"join", of(ls("a", "b"), s("--")), s("a--b")},
		{"join", of(ls("a", "", "b"), s("")), s("ab")},
		{"join", of(ls("a"), s("--")), s("a")},
		{"join", of(ls(), s("--")), s("")},
		{"join", of(ls(a64[:32], a64[:31]), s(",")), s(a64[:32] + "," + a64[:31])},
		{"join", of(ls(a64[:32], a64[:32]), s(",")), undefined},
		{"item", of(ls("a", "b"), n(0)), s("a")},
		{"item", of(ls("a", "b"), n(1)), s("b")},
		{"item", of(ls("a", "b"), n(2)), undefined},
		{"item", of(ls("a", "b"), n(-1)), s("b")},
		{"item", of(ls("a", "b"), n(-2)), s("a")},
		{"item", of(ls("a", "b"), n(-3)), undefined},
		{"item", of(ls(), n(0)), undefined},
		{"item", of(ls(), n(-1)), undefined},
		{"sorttexts", of(ls("b", "B", "", "a", "ab", "b")), ls("", "B", "a", "ab", "b", "b")},
		{"revtexts", of(ls("b", "a", "a")), ls("a", "a", "b")},
		{"revtexts", of(ls()), ls()},
	})
}

// P9.2, patterns.
func TestPatterns(t *testing.T) {
	yes, no := value.OfBool(true), value.OfBool(false)
	digits := p("[0-9][0-9]*")
	checkApplyCases(t, []applyCase{
		{"start", of(s("a12b3"), digits, n(0)), n(1)},
		{"start", of(s("a12b3"), digits, n(-1)), n(4)},
		{"start", of(s("a12b3"), digits, n(2)), undefined},
		{"start", of(s("a12b3"), p("("), n(0)), undefined},
		{"end", of(s("a12b3"), digits, n(0)), n(3)},
		{"end", of(s("a12b3"), digits, n(-3)), undefined},
		{"extract", of(s("a12b3"), digits, n(-1)), s("3")},
		{"extract", of(s("ab"), digits, n(0)), undefined},
		{"erase", of(s("a12b3"), digits), s("ab")},
		{"erase", of(s("a12b3"), p("*")), undefined},
		{"occurs", of(s("a12b3"), digits), n(2)},
		{"occurs", of(s("a12b3"), p("x*")), n(0)},
		{"occurs", of(s("a12b3"), p("[")), undefined},
		{"matches", of(s("abab"), p("(ab)*")), yes},
		{"matches", of(s("aba"), p("(ab)*")), no},
		{"matches", of(s("(ab)*"), p("\\")), undefined},
		{"plit", of(s("a.b")), p("a\\.b")},
		{"plit", of(s("")), p("()")},
		{"plit", of(s(a64[:40])), p(a64[:40])},
		{"plit", of(s(a64[:41])), undefined},
		{"plit", of(s(strings.Repeat("(", 21))), undefined},
		{"pcat", of(p("a|b"), p("c")), p("(a|b)c")},
		{"pcat", of(p("a"), p("(")), undefined},
		{"pcat", of(p(star40), p("c")), undefined},
		{"palt", of(p("a|b"), p("c")), p("a|b|c")},
		{"palt", of(p("("), p("c")), undefined},
		{"pstar", of(p("a|b")), p("(a|b)*")},
		{"pstar", of(p("a")), p("a*")},
		{"pstar", of(p(star40)), undefined},
	})
}

// P9.2, lists.
func TestLists(t *testing.T) {
	full := value.OfInts(make([]int64, 16))
	checkApplyCases(t, []applyCase{
		{"head", of(l(4, 5, 6)), n(4)},
		{"head", of(l()), undefined},
		{"last", of(l(4, 5, 6)), n(6)},
		{"last", of(l()), undefined},
		{"take", of(l(4, 5, 6), n(2)), l(4, 5)},
		{"take", of(l(4, 5, 6), n(-1)), l()},
		{"drop", of(l(4, 5, 6), n(2)), l(6)},
		{"drop", of(l(4, 5, 6), n(7)), l()},
		{"reverse", of(l(4, 5, 6)), l(6, 5, 4)},
		{"sort", of(l(4, -5, 6)), l(-5, 4, 6)},
		{"unique", of(l(2, 1, 2)), l(2, 1)},
		{"sum", of(l(1000000, 1, -1)), n(1000000)},
		{"sum", of(l(1000000, 1)), undefined},
		{"sum", of(l()), n(0)},
		{"shift", of(l(4, 5), n(-4)), l(0, 1)},
		{"shift", of(l(4, 1000000), n(1)), undefined},
		{"scale", of(l(4, 5), n(-2)), l(-8, -10)},
		{"scale", of(l(4, 500001), n(2)), undefined},
		{"above", of(l(4, 5, 6), n(5)), l(6)},
		{"even", of(l(4, 5, -6, 0)), l(4, -6, 0)},
		{"zip", of(l(1, 2, 3), l(10, 20)), l(11, 22)},
		{"zip", of(l(1000000), l(1)), undefined},
		{"append", of(l(1, 2), l(3)), l(1, 2, 3)},
		{"append", of(full, l()), full},
		{"append", of(full, l(1)), undefined},
		{"element", of(l(4, 5), n(-2)), n(4)},
		{"element", of(l(4, 5), n(2)), undefined},
		{"count", of(l(4, 5, 4), n(4)), n(2)},
		{"maximum", of(l(4, -5, 6)), n(6)},
		{"maximum", of(l()), undefined},
		{"minimum", of(l(4, -5, 6)), n(-5)},
		{"minimum", of(l()), undefined},
		{"running", of(l(1, 2, 3)), l(1, 3, 6)},
		{"running", of(l(1000000, 1, -1)), undefined},
		{"length", of(l()), n(0)},
		{"length", of(full), n(16)},
	})
}

// P9.2, tables.
func TestTables(t *testing.T) {
	none, square := m(), m("a|b", "c|d")
	full := m("1|2|3|4|5|6|7|8")
	checkApplyCases(t, []applyCase{
		{"transpose", of(m("a|b|c", "d|e|f")), m("a|d", "b|e", "c|f")},
		{"transpose", of(none), none},
		{"row", of(square, n(-1)), ls("c", "d")},
		{"row", of(square, n(2)), undefined},
		{"row", of(none, n(0)), undefined},
		{"column", of(square, n(0)), ls("a", "c")},
		{"column", of(none, n(0)), undefined},
		{"droprow", of(square, n(0)), m("c|d")},
		{"droprow", of(m("a"), n(0)), none},
		{"droprow", of(square, n(-3)), undefined},
		{"dropcolumn", of(square, n(0)), m("b", "d")},
		{"dropcolumn", of(m("a"), n(0)), undefined},
		{"sorttable", of(m("b|1", "a|2", "a|1"), n(0)), m("a|2", "a|1", "b|1")},
		{"sorttable", of(square, n(2)), undefined},
		{"fill", of(m("a|b", "|d", "e|")), m("a|b", "a|d", "e|d")},
		{"unpivot", of(m("|x|y", "k|1|2"), n(1)), m("k|x|1", "k|y|2")},
		{"unpivot", of(square, n(2)), undefined},
		{"pivot", of(m("k|x|1", "k|y|2")), m("|x|y", "k|1|2")},
		{"pivot", of(m("k|x|1", "k|x|2")), undefined},
		{"cell", of(square, n(1), n(0)), s("c")},
		{"cell", of(square, n(-1), n(-1)), s("d")},
		{"cell", of(square, n(0), n(2)), undefined},
		{"stack", of(square, m("e|f")), m("a|b", "c|d", "e|f")},
		{"stack", of(square, m("e")), undefined},
		{"beside", of(square, m("e", "f")), m("a|b|e", "c|d|f")},
		{"beside", of(square, m("e|f")), undefined},
		{"beside", of(full, m("e")), undefined},
		{"splitcolumn", of(m("a-b-c|x"), n(0), s("-")), m("a|b-c|x")},
		{"splitcolumn", of(square, n(0), s("")), undefined},
		{"splitcolumn", of(full, n(0), s("-")), undefined},
	})
}

// P9.2, bits.
func TestBits(t *testing.T) {
	checkApplyCases(t, []applyCase{
		{"band", of(v(12), v(10)), v(8)},
		{"bor", of(v(12), v(10)), v(14)},
		{"bxor", of(v(12), v(10)), v(6)},
		{"bnot", of(v(1)), v(254)},
		{"badd", of(v(200), v(100)), v(44)},
		{"bsub", of(v(0), v(1)), v(255)},
		{"bmul", of(v(16), v(17)), v(16)},
		{"bleft", of(v(129), n(1)), v(2)},
		{"bleft", of(v(129), n(-1)), v(129)},
		{"bleft", of(v(129), n(1000000)), v(0)},
		{"bright", of(v(129), n(1)), v(64)},
		{"barith", of(v(128), n(1)), v(192)},
		{"barith", of(v(128), n(9)), v(255)},
		{"ones", of(v(255)), n(8)},
		{"eqbits", of(v(3), v(3)), value.OfBool(true)},
		{"eqbits", of(v(3), v(4)), value.OfBool(false)},
	})
}

// P9.2: the order of the errors.
func TestApplyErrors(t *testing.T) {
	bad := api.Value{Type: api.Bool, Num: 2}
	for _, x := range []struct {
		name string
		args []api.Value
		want api.Errno
	}{
		{"plus", nil, api.ErrName},
		{"plus", of(bad), api.ErrName},
		{"", of(n(1), n(2)), api.ErrName},
		{"add", nil, api.ErrSize},
		{"add", of(bad), api.ErrSize},
		{"add", of(n(1), n(2), n(3)), api.ErrSize},
		{"add", of(s("a"), bad), api.ErrType},
		{"add", of(bad, s("a")), api.ErrRange},
		{"add", of(n(1), bad), api.ErrRange},
		{"add", of(n(1000000), s("a")), api.ErrType},
		{"add", of(api.Value{}, bad), api.ErrType},
		{"add", of(api.Value{Type: api.Int, Text: "a"}, bad), api.ErrForm},
		{"add", of(n(1000001), n(-1)), api.ErrRange},
		{"and", of(value.OfBool(true), n(1)), api.ErrType},
		{"len", of(s(a64 + "a")), api.ErrSize},
		{"len", of(p("a")), api.ErrType},
		{"pstar", of(s("a")), api.ErrType},
		{"pstar", of(p("")), api.ErrSize},
		{"ones", of(n(1)), api.ErrType},
		{"head", of(ls()), api.ErrType},
		{"head", of(api.Value{Type: api.Ints, Items: of(s("a"))}), api.ErrType},
		{"fill", of(value.OfTable([][]string{{}})), api.ErrSize},
		{"iftext", of(value.OfBool(true), s("a"), n(1)), api.ErrType},
		{"iftext", of(value.OfBool(false), s("\n"), n(1)), api.ErrRange},
	} {
		if got, e := operator.Apply(x.name, x.args); e != x.want || !value.Equal(got, undefined) {
			t.Errorf("%s %v is %v, %d, not %d", x.name, x.args, got, e, x.want)
		}
	}
	for _, name := range strangers() {
		if got, e := operator.Apply(name, of(n(1), n(1))); e != api.ErrName || !value.Equal(got, undefined) {
			t.Errorf("%q is %v, %d", name, got, e)
		}
	}
}

// P9.2: the errors of the arguments of every operator.
func TestArgumentErrors(t *testing.T) {
	for _, o := range entries() {
		var args []api.Value
		for _, typ := range o.Args {
			least, _ := value.Default(typ)
			args = append(args, least)
		}
		check := func(want api.Errno, args []api.Value) {
			if got, e := operator.Apply(o.Name, args); e != want || !value.Equal(got, undefined) {
				t.Errorf("%s %v is %v, %d, not %d", o.Name, args, got, e, want)
			}
		}
		check(api.ErrSize, nil)
		check(api.ErrSize, args[1:])
		check(api.ErrSize, append(of(args...), args[0]))
		for i := range args {
			changed := append(of(), args...)
			for typ := api.Bool; typ <= api.Pattern; typ++ {
				least, _ := value.Default(typ)
				if changed[i] = least; typ != o.Args[i] {
					check(api.ErrType, changed)
				}
			}
			changed[i] = api.Value{Type: o.Args[i], Num: 1, Text: "a"}
			check(api.ErrForm, changed)
			if i+1 < len(args) {
				changed[i+1] = api.Value{Type: 9}
				check(api.ErrForm, changed)
			}
		}
	}
}
