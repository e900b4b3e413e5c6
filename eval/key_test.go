package eval_test

import (
	"math"
	"slices"
	"strings"
	"testing"

	"synthesis/api"
	"synthesis/eval"
	"synthesis/term"
	"synthesis/value"
)

// P15.5: the line of each outcome.
func TestKey(t *testing.T) {
	is := func(v api.Value) api.Outcome { return api.Outcome{Value: v} }
	fails := func(e api.Errno) api.Outcome { return api.Outcome{Errno: e} }
	for i, x := range []struct {
		l    []api.Outcome
		want string
	}{
		{nil, ""},
		{[]api.Outcome{}, ""},
		{[]api.Outcome{is(value.OfInt(5)), fails(api.ErrUndefined)}, "5\n!9\n"},
		{[]api.Outcome{fails(api.ErrUndefined), is(value.OfInt(-5))}, "!9\n-5\n"},
		{[]api.Outcome{is(value.OfBool(true)), is(value.OfBool(false))}, "true\nfalse\n"},
		{[]api.Outcome{is(value.OfText("a \"b\\"))}, "\"a \\\"b\\\\\"\n"},
		{[]api.Outcome{is(value.OfText(""))}, "\"\"\n"},
		{[]api.Outcome{is(value.OfBits(10)), is(value.OfPattern("[a-z]*"))}, "0x0a\nr\"[a-z]*\"\n"},
		{[]api.Outcome{is(value.OfInts([]int64{1, -2})), is(value.OfTexts([]string{"a", ""}))}, "[1, -2]\n{\"a\", \"\"}\n"},
		{[]api.Outcome{is(value.OfTable([][]string{{"a", "b"}, {"c", "d"}})), is(value.OfTable(nil))}, "<{\"a\", \"b\"}, {\"c\", \"d\"}>\n<>\n"},
		// Values that are not valid.
		{[]api.Outcome{{}, {}}, "?\n?\n"},
		{[]api.Outcome{is(value.OfInt(api.MaxInt + 1)), is(value.OfText("\n")), is(value.OfPattern("")), is(api.Value{Type: 9}), is(api.Value{Type: api.Int, Text: "a"})}, "?\n?\n?\n?\n?\n"},
		{[]api.Outcome{is(value.OfTable([][]string{{"a"}, {"b", "c"}}))}, "?\n"},
		// Every other error, known or not; the value beside it does not count.
		{[]api.Outcome{fails(api.ErrRange), fails(api.ErrFalse), fails(20)}, "!1\n!19\n!20\n"},
		{[]api.Outcome{fails(-3), fails(math.MaxInt64), fails(math.MinInt64)}, "!-3\n!9223372036854775807\n!-9223372036854775808\n"},
		{[]api.Outcome{{Value: value.OfInt(5), Errno: api.ErrUndefined}, {Value: value.OfText("\n"), Errno: 1}}, "!9\n!1\n"},
	} {
		if got := eval.Key(x.l); got != x.want {
			t.Errorf("case %d: %q", i, got)
		}
	}
}

// P15.6: lists of outcomes have the same key exactly if they are equal.
func TestKeysDiffer(t *testing.T) {
	outcomes := []api.Outcome{
		{Errno: api.ErrUndefined},
		{Value: value.OfInt(0)}, {Value: value.OfInt(9)}, {Value: value.OfInt(-9)}, {Value: value.OfBits(0)}, {Value: value.OfBits(9)},
		{Value: value.OfBool(false)}, {Value: value.OfBool(true)},
		{Value: value.OfText("")}, {Value: value.OfText("0")}, {Value: value.OfText("!9")}, {Value: value.OfText("?")}, {Value: value.OfText("true")}, {Value: value.OfText("\"")}, {Value: value.OfText("\\")}, {Value: value.OfText("n\\n")},
		{Value: value.OfPattern("0")}, {Value: value.OfPattern("!9")}, {Value: value.OfPattern("\"")},
		{Value: value.OfInts(nil)}, {Value: value.OfInts([]int64{0})}, {Value: value.OfInts([]int64{0, 0})}, {Value: value.OfInts([]int64{0, 9})}, {Value: value.OfInts([]int64{9, 0})},
		{Value: value.OfTexts(nil)}, {Value: value.OfTexts([]string{""})}, {Value: value.OfTexts([]string{"", ""})}, {Value: value.OfTexts([]string{"\", \""})},
		{Value: value.OfTable(nil)}, {Value: value.OfTable([][]string{{""}})}, {Value: value.OfTable([][]string{{"", ""}})}, {Value: value.OfTable([][]string{{""}, {""}})},
	}
	lists := [][]api.Outcome{nil}
	for _, a := range outcomes {
		lists = append(lists, []api.Outcome{a})
		for _, b := range outcomes {
			lists = append(lists, []api.Outcome{a, b})
		}
	}
	withKey := map[string][]api.Outcome{}
	for _, l := range lists {
		key := eval.Key(l)
		if other, isKnown := withKey[key]; isKnown {
			t.Fatalf("%v and %v have the key %q", l, other, key)
		}
		if withKey[key] = l; eval.Key(slices.Clone(l)) != key || strings.Count(key, "\n") != len(l) {
			t.Fatalf("%v has the key %q", l, key)
		}
	}
}

// P15.6: programs with the same key have the same outcomes.
func TestKeysOfTerms(t *testing.T) {
	for _, x := range families() {
		classes := map[string]api.Term{}
		var representatives []api.Term
		for _, y := range derived(x.l, 0, 5) {
			o, _ := eval.Outcomes(x.l, y, x.tuples)
			key := eval.Key(o)
			first, isKnown := classes[key]
			if !isKnown {
				classes[key] = y
				representatives = append(representatives, y)
				continue
			}
			if same, _ := eval.Outcomes(x.l, first, x.tuples); !areSame(o, same) {
				t.Fatalf("%s: %v and %v have the key %q", x.l.Name, term.Rules(first), term.Rules(y), key)
			}
		}
		for i, y := range representatives {
			o, _ := eval.Outcomes(x.l, y, x.tuples)
			for _, z := range representatives[:i] {
				if other, _ := eval.Outcomes(x.l, z, x.tuples); areSame(o, other) {
					t.Fatalf("%s: %v and %v have different keys", x.l.Name, term.Rules(z), term.Rules(y))
				}
			}
		}
	}
}
