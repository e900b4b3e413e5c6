package operator_test

import (
	"slices"
	"strings"
	"testing"

	"synthesis/api"
	"synthesis/operator"
	"synthesis/value"
)

var (
	a64    = strings.Repeat("a", 64)
	star40 = strings.Repeat("a*", 20)
)

// pool returns valid values of a type, among them the extreme ones.
func pool(typ int) []api.Value {
	switch typ {
	case api.Bool:
		return each(value.OfBool, false, true)
	case api.Int:
		return each(value.OfInt, -1000000, -65, -17, -9, -8, -3, -2, -1, 0, 1, 2, 3, 7, 8, 9, 16, 32, 64, 65, 1000000)
	case api.Text:
		return each(value.OfText, "", " ", "a", "A", "ab", "a,,b", ",", ",,", "Ada  Lovelace ", "-7", "-0", "007", "1000000", "1000001", "abab", "X1yX22", a64[:32], a64[:41], a64, strings.Repeat("a,", 32), strings.Repeat("(", 21), "~!\"\\")
	case api.Bits:
		return each(value.OfBits, 0, 1, 2, 5, 127, 128, 200, 254, 255)
	case api.Ints:
		return each(value.OfInts, nil, []int64{0}, []int64{-1}, []int64{1, 2, 3}, []int64{3, -1, 2, 2}, []int64{1000000}, []int64{-1000000, 1}, []int64{1000000, 1, -1}, slices.Repeat([]int64{7, 8}, 8), slices.Repeat([]int64{500000}, 3))
	case api.Texts:
		return each(value.OfTexts, nil, []string{""}, []string{"a"}, []string{"b", "B", "", "a", "b"}, []string{a64, a64}, []string{"ab", "a"}, slices.Repeat([]string{"x", "-"}, 8))
	case api.Table:
		return each(value.OfTable, nil, [][]string{{""}}, [][]string{{"a", "b"}, {"c", "d"}}, [][]string{{"b", "a-x", ""}, {"", "-", "c"}, {"a", "a-a-", ""}},
			[][]string{{"k", "x", "1"}, {"k", "y", "2"}, {"l", "x", "3"}}, [][]string{{"", "x", "y"}, {"k", "1", "2"}}, [][]string{{"a"}, {""}, {a64}, {"ab"}},
			slices.Repeat([][]string{slices.Repeat([]string{"z"}, 8)}, 8))
	case api.Pattern:
		return each(value.OfPattern, "a", "b", "[0-9][0-9]*", "(", ")", "a|b", "(ab)*", "()", "[]", ".", ".*", " ", star40, star40[:38], "a(b|c)*")
	}
	return nil
}

func each[G any](of func(G) api.Value, all ...G) []api.Value {
	var values []api.Value
	for _, g := range all {
		values = append(values, of(g))
	}
	return values
}

// tuples calls visit for all tuples of values of the types.
func tuples(types []int, visit func(args []api.Value), chosen ...api.Value) {
	if len(types) == 0 {
		visit(chosen)
		return
	}
	for _, v := range pool(types[0]) {
		tuples(types[1:], visit, append(slices.Clip(chosen), v)...)
	}
}

func TestPoolsAreValid(t *testing.T) {
	for typ := api.Bool; typ <= api.Pattern; typ++ {
		for _, v := range pool(typ) {
			if e := value.Check(v); e != api.OK || v.Type != typ {
				t.Error(typ, v, e)
			}
		}
	}
}

// P9.2, and the part of P9.5 about the results: all operators on all tuples of the pools.
func TestApply(t *testing.T) {
	for _, o := range entries() {
		defined, undefined := 0, 0
		tuples(o.Args, func(args []api.Value) {
			got, e := operator.Apply(o.Name, args)
			want, wantE := wanted(o.Name, args)
			if e != wantE || !value.Equal(got, want) {
				t.Fatalf("%s %v is %v, %d, not %v, %d", o.Name, args, got, e, want, wantE)
			}
			if e != api.OK {
				undefined++
				return
			}
			defined++
			if got.Type != o.Result || value.Check(got) != api.OK {
				t.Fatalf("%s %v is %v, which is not valid", o.Name, args, got)
			}
		})
		if defined == 0 {
			t.Errorf("%s is not defined for any of the tuples", o.Name)
		}
		if isPartial := slices.Contains(partial(), o.Name); isPartial != (undefined > 0) {
			t.Errorf("%s is undefined for %d of the tuples", o.Name, undefined)
		}
	}
}

// partial returns the operators that are undefined for some valid arguments.
func partial() []string {
	return strings.Fields(`add sub mul concat slice find replace word char repeat read split join item
		start end extract erase occurs matches plit pcat palt pstar
		head last sum shift scale zip append element maximum minimum running
		row column droprow dropcolumn sorttable unpivot pivot cell stack beside splitcolumn`)
}

// P9.5: exchanging the arguments.
func TestExchangedArguments(t *testing.T) {
	for _, o := range entries() {
		if len(o.Args) != 2 || o.Args[0] != o.Args[1] {
			continue
		}
		differences := 0
		tuples(o.Args, func(args []api.Value) {
			v, e := operator.Apply(o.Name, args)
			w, f := operator.Apply(o.Name, []api.Value{args[1], args[0]})
			if e != f || !value.Equal(v, w) {
				differences++
			}
		})
		if operator.Commutes(o.Name) != (differences == 0) {
			t.Errorf("%s: %d tuples differ from those with exchanged arguments", o.Name, differences)
		}
	}
}

// applyCase is a call of Apply, and its result; undefined, the zero value, stands for ErrUndefined.
type applyCase struct {
	name string
	args []api.Value
	want api.Value
}

func n(x int64) api.Value              { return value.OfInt(x) }
func s(x string) api.Value             { return value.OfText(x) }
func p(x string) api.Value             { return value.OfPattern(x) }
func v(x int64) api.Value              { return value.OfBits(x) }
func l(x ...int64) api.Value           { return value.OfInts(x) }
func ls(x ...string) api.Value         { return value.OfTexts(x) }
func m(rows ...string) api.Value       { return value.OfTable(cells(rows)) }
func of(args ...api.Value) []api.Value { return args }

// cells splits each row at the bars.
func cells(rows []string) [][]string {
	var all [][]string
	for _, row := range rows {
		all = append(all, strings.Split(row, "|"))
	}
	return all
}

func checkApplyCases(t *testing.T, cases []applyCase) {
	t.Helper()
	for _, x := range cases {
		want := api.OK
		if x.want.Type == 0 {
			want = api.ErrUndefined
		}
		if got, e := operator.Apply(x.name, x.args); e != want || !value.Equal(got, x.want) {
			t.Errorf("%s %v is %v, %d, not %v", x.name, x.args, got, e, x.want)
		}
	}
}
