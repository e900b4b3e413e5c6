package tables_test

import (
	"math"
	"strings"
	"testing"

	"synthesis/api"
	"synthesis/tables"
)

var (
	text64 = strings.Repeat("x", 64)
	text65 = strings.Repeat("x", 65)
)

type checkCase struct {
	t    [][]string
	want api.Errno
}

func invalidTables() []checkCase {
	nine := grid(9, 1)
	strange := grid(9, 2)
	strange[0], strange[3] = nil, []string{"\n"}
	return []checkCase{
		{nine, api.ErrSize},
		{strange, api.ErrSize},
		{make([][]string, 100000), api.ErrSize},
		{grid(1, 9), api.ErrSize},
		{grid(8, 9), api.ErrSize},
		{[][]string{{}}, api.ErrSize},
		{[][]string{nil, nil}, api.ErrSize},
		{[][]string{{"a"}, {}}, api.ErrSize},
		{[][]string{{"a"}, grid(1, 9)[0]}, api.ErrSize},
		{[][]string{grid(1, 9)[0], {"a"}}, api.ErrSize},
		{[][]string{{}, {"a"}}, api.ErrSize},
		{[][]string{{"a"}, {"a", "b"}}, api.ErrForm},
		{[][]string{{"a", "b"}, {"a"}}, api.ErrForm},
		{[][]string{{"a", "b"}, {"a", "b"}, {"a", "b", "c"}}, api.ErrForm},
		{[][]string{{text65}}, api.ErrSize},
		{[][]string{{"a", "b"}, {"c", text65}}, api.ErrSize},
		{[][]string{{text64[1:] + "\n\n"}}, api.ErrSize},
		{[][]string{{text64[1:] + "\n"}}, api.ErrForm},
		{[][]string{{"\x00"}}, api.ErrForm},
		{[][]string{{"\x1f"}}, api.ErrForm},
		{[][]string{{"a\x7f"}}, api.ErrForm},
		{[][]string{{"\x80"}}, api.ErrForm},
		{[][]string{{"ab\xff"}}, api.ErrForm},
		{[][]string{{"\u00e9"}}, api.ErrForm},
		// The first row with an error determines it, and in this row the first cell.
		{[][]string{{"a", "\t"}, {}}, api.ErrForm},
		{[][]string{{"a", "b"}, {"a"}, {}}, api.ErrForm},
		{[][]string{{"a", "b"}, {}, {"a"}}, api.ErrSize},
		{[][]string{{"a"}, {text65, "b"}}, api.ErrForm},
		{[][]string{{"a"}, {text65}, {"a", "b"}}, api.ErrSize},
		{[][]string{{"\t", text65}}, api.ErrForm},
		{[][]string{{text65, "\t"}}, api.ErrSize},
		{[][]string{{"\t"}, {text65}}, api.ErrForm},
		{[][]string{{text65}, {"\t"}}, api.ErrSize},
	}
}

// P8.1
func TestCheck(t *testing.T) {
	valid := [][][]string{nil, {}, {{""}}, {{text64, ""}, {" ", "~"}}, grid(8, 8), grid(1, 8), grid(8, 1)}
	for i, x := range append(valid, shortTables()...) {
		if e := tables.Check(x); e != api.OK {
			t.Fatalf("valid table %d, %q: %d", i, x, e)
		}
	}
	for i, x := range invalidTables() {
		if e := tables.Check(x.t); e != x.want {
			t.Errorf("invalid table %d: %d, not %d", i, e, x.want)
		}
	}
	for c := range 256 {
		want := api.OK
		if c < 32 || c > 126 {
			want = api.ErrForm
		}
		for _, cell := range []string{string([]byte{byte(c)}), string([]byte{'a', byte(c), 'b'})} {
			if e := tables.Check([][]string{{"", cell}}); e != want {
				t.Errorf("cell %q: %d, not %d", cell, e, want)
			}
		}
	}
}

// numbers are arguments that are right or wrong.
var numbers = []int{0, 1, -1, 7, 100, math.MinInt, math.MaxInt}

// checkZero checks that a call has this error, and no other result.
func checkZero(t *testing.T, name string, length int, e, want api.Errno) {
	t.Helper()
	if length != 0 || e != want {
		t.Errorf("%s has %d elements, %d, not %d", name, length, e, want)
	}
}

// The error of Check comes before all others.
func TestErrorOfCheckComesFirst(t *testing.T) {
	for _, x := range invalidTables() {
		if a, b := tables.Transpose(x.t), tables.Fill(x.t); len(a) != 0 || len(b) != 0 {
			t.Errorf("Transpose and Fill of %q are %q and %q", x.t, a, b)
		}
		p, e := tables.Pivot(x.t)
		checkZero(t, "Pivot", len(p), e, x.want)
		for _, i := range numbers {
			checkInvalidAt(t, x, i)
		}
		for _, b := range append(invalidTables(), checkCase{nil, api.OK}, checkCase{grid(8, 8), api.OK}) {
			s, e := tables.Stack(x.t, b.t)
			checkZero(t, "Stack", len(s), e, x.want)
			s, e = tables.Beside(x.t, b.t)
			checkZero(t, "Beside", len(s), e, x.want)
		}
		for _, a := range [][][]string{nil, {{"a"}}, grid(8, 8)} {
			s, e := tables.Stack(a, x.t)
			checkZero(t, "Stack", len(s), e, x.want)
			s, e = tables.Beside(a, x.t)
			checkZero(t, "Beside", len(s), e, x.want)
		}
	}
}

// checkInvalidAt checks the functions that have a table, which is not valid here, and a number.
func checkInvalidAt(t *testing.T, x checkCase, i int) {
	t.Helper()
	for name, f := range map[string]func([][]string, int) ([]string, api.Errno){"Row": tables.Row, "Column": tables.Column} {
		l, e := f(x.t, i)
		checkZero(t, name, len(l), e, x.want)
	}
	for name, f := range map[string]func([][]string, int) ([][]string, api.Errno){
		"DropRow": tables.DropRow, "DropColumn": tables.DropColumn, "Sort": tables.Sort, "Unpivot": tables.Unpivot,
	} {
		l, e := f(x.t, i)
		checkZero(t, name, len(l), e, x.want)
	}
	for _, k := range numbers {
		cell, e := tables.Cell(x.t, i, k)
		checkZero(t, "Cell", len(cell), e, x.want)
	}
	for _, by := range []string{"", "x", "\xff"} {
		l, e := tables.Split(x.t, i, by)
		checkZero(t, "Split", len(l), e, x.want)
	}
}
