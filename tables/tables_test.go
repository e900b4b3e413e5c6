package tables_test

import (
	"math"
	"slices"
	"strconv"
	"testing"

	"synthesis/api"
	"synthesis/tables"
)

// tablesOf returns all tables of this size with the given cells.
func tablesOf(rows, columns int, cells ...string) [][][]string {
	all := [][][]string{{}}
	for range rows {
		var next [][][]string
		for _, t := range all {
			for _, row := range rowsOf(columns, cells) {
				next = append(next, append(slices.Clone(t), row))
			}
		}
		all = next
	}
	return all
}

func rowsOf(columns int, cells []string) [][]string {
	all := [][]string{{}}
	for range columns {
		var next [][]string
		for _, row := range all {
			for _, cell := range cells {
				next = append(next, append(slices.Clone(row), cell))
			}
		}
		all = next
	}
	return all
}

// grid returns a table whose cells differ.
func grid(rows, columns int) [][]string {
	var t [][]string
	for i := range rows {
		var row []string
		for k := range columns {
			row = append(row, strconv.Itoa(10*i+k))
		}
		t = append(t, row)
	}
	return t
}

// shortTables returns all tables of few cells, and a table of each size.
func shortTables() [][][]string {
	all := [][][]string{nil}
	for rows := 1; rows <= 8; rows++ {
		for columns := 1; columns <= 8; columns++ {
			all = append(all, grid(rows, columns))
			if rows*columns <= 6 {
				all = append(all, tablesOf(rows, columns, "", "a", "b")...)
			}
		}
	}
	return append(all, tablesOf(3, 3, "", "a")...)
}

func columnsOf(t [][]string) int {
	if len(t) == 0 {
		return 0
	}
	return len(t[0])
}

// number returns the index that i stands for among n things, and -1 if there is none.
func number(i, n int) int {
	for k := range n {
		if i == k || i == k-n {
			return k
		}
	}
	return -1
}

// around returns numbers around the indices of n things.
func around(n int) []int {
	all := []int{math.MinInt, math.MinInt + 1, math.MaxInt - 1, math.MaxInt}
	for i := -n - 2; i <= n+2; i++ {
		all = append(all, i)
	}
	return all
}

func sameTable(a, b [][]string) bool { return slices.EqualFunc(a, b, slices.Equal[[]string]) }

func checkTable(t *testing.T, name string, from, got [][]string, e api.Errno, want [][]string, wantError api.Errno) {
	t.Helper()
	if wantError != api.OK {
		want = nil
	}
	if !sameTable(got, want) || e != wantError {
		t.Fatalf("%s of %q is %q, %d, not %q, %d", name, from, got, e, want, wantError)
	}
	// P8.10
	if f := tables.Check(got); f != api.OK {
		t.Fatalf("%s of %q is %q, which is not valid: %d", name, from, got, f)
	}
}

// without returns l without the element number k.
func without[E any](l []E, k int) []E {
	var rest []E
	for i, x := range l {
		if i != k {
			rest = append(rest, x)
		}
	}
	return rest
}

// P8.2 and P8.10
func TestTranspose(t *testing.T) {
	for _, x := range shortTables() {
		var want [][]string
		for k := range columnsOf(x) {
			var row []string
			for i := range x {
				row = append(row, x[i][k])
			}
			want = append(want, row)
		}
		got := tables.Transpose(x)
		checkTable(t, "Transpose", x, got, api.OK, want, api.OK)
		checkTable(t, "Transpose of Transpose", x, tables.Transpose(got), api.OK, x, api.OK)
	}
	checkTable(t, "Transpose", nil, tables.Transpose([][]string{{"a", "b"}, {"c", "d"}}), api.OK, [][]string{{"a", "c"}, {"b", "d"}}, api.OK)
}

// above returns the nearest cell from the row i upwards that is not empty.
func above(t [][]string, i, k int) string {
	for ; i >= 0; i-- {
		if t[i][k] != "" {
			return t[i][k]
		}
	}
	return ""
}

// P8.2 and P8.10
func TestFill(t *testing.T) {
	for _, x := range append(shortTables(), tablesOf(6, 1, "", " ", "a")...) {
		var want [][]string
		for i := range x {
			var row []string
			for k := range x[i] {
				row = append(row, above(x, i, k))
			}
			want = append(want, row)
		}
		got := tables.Fill(x)
		checkTable(t, "Fill", x, got, api.OK, want, api.OK)
		checkTable(t, "Fill of Fill", x, tables.Fill(got), api.OK, got, api.OK)
	}
}

// P8.3
func TestRowAndColumn(t *testing.T) {
	for _, x := range shortTables() {
		for _, i := range around(len(x)) {
			var want []string
			wantError := api.ErrNone
			if r := number(i, len(x)); r >= 0 {
				want, wantError = x[r], api.OK
			}
			if got, e := tables.Row(x, i); !slices.Equal(got, want) || e != wantError {
				t.Fatalf("Row(%q, %d) is %q, %d, not %q, %d", x, i, got, e, want, wantError)
			}
		}
		for _, i := range around(columnsOf(x)) {
			var want []string
			wantError := api.ErrNone
			if k := number(i, columnsOf(x)); k >= 0 {
				wantError = api.OK
				for _, row := range x {
					want = append(want, row[k])
				}
			}
			if got, e := tables.Column(x, i); !slices.Equal(got, want) || e != wantError {
				t.Fatalf("Column(%q, %d) is %q, %d, not %q, %d", x, i, got, e, want, wantError)
			}
		}
	}
}

// P8.3
func TestCell(t *testing.T) {
	for _, x := range shortTables() {
		for _, i := range around(len(x)) {
			for _, k := range around(columnsOf(x)) {
				want, wantError := "", api.ErrNone
				if r, c := number(i, len(x)), number(k, columnsOf(x)); r >= 0 && c >= 0 {
					want, wantError = x[r][c], api.OK
				}
				if got, e := tables.Cell(x, i, k); got != want || e != wantError {
					t.Fatalf("Cell(%q, %d, %d) is %q, %d, not %q, %d", x, i, k, got, e, want, wantError)
				}
			}
		}
	}
}

// P8.4
func TestDropRow(t *testing.T) {
	for _, x := range shortTables() {
		for _, i := range around(len(x)) {
			wantError := api.OK
			r := number(i, len(x))
			if r < 0 {
				wantError = api.ErrNone
			}
			got, e := tables.DropRow(x, i)
			checkTable(t, "DropRow "+strconv.Itoa(i), x, got, e, without(x, r), wantError)
		}
	}
	got, e := tables.DropRow([][]string{{"a"}}, 0)
	checkTable(t, "DropRow of the only row", nil, got, e, nil, api.OK)
}

// P8.4
func TestDropColumn(t *testing.T) {
	for _, x := range shortTables() {
		for _, i := range around(columnsOf(x)) {
			wantError := api.OK
			k := number(i, columnsOf(x))
			if k < 0 {
				wantError = api.ErrNone
			} else if columnsOf(x) == 1 {
				wantError = api.ErrSize
			}
			var want [][]string
			for _, row := range x {
				want = append(want, without(row, k))
			}
			got, e := tables.DropColumn(x, i)
			checkTable(t, "DropColumn "+strconv.Itoa(i), x, got, e, want, wantError)
		}
	}
}

// sorted inserts each row behind those that are not greater in the column k.
func sorted(t [][]string, k int) [][]string {
	var rows [][]string
	for _, row := range t {
		at := 0
		for i := range rows {
			if rows[i][k] <= row[k] {
				at = i + 1
			}
		}
		rows = slices.Insert(rows, at, row)
	}
	return rows
}

// P8.5 and P8.10
func TestSort(t *testing.T) {
	all := append(shortTables(), tablesOf(4, 2, "x", "y")...)
	for _, x := range append(all, tablesOf(4, 1, "B", "a", "", " ", "aa", "10", "9")...) {
		for _, i := range around(columnsOf(x)) {
			k := number(i, columnsOf(x))
			if k < 0 {
				got, e := tables.Sort(x, i)
				checkTable(t, "Sort "+strconv.Itoa(i), x, got, e, nil, api.ErrNone)
				continue
			}
			got, e := tables.Sort(x, i)
			checkTable(t, "Sort "+strconv.Itoa(i), x, got, e, sorted(x, k), api.OK)
		}
	}
	mixed := [][]string{{"a", "1"}, {"Z", "2"}, {"~", "3"}, {"", "4"}, {"a", "0"}, {"10", "5"}, {"9", "6"}, {" ", "7"}}
	want := [][]string{{"", "4"}, {" ", "7"}, {"10", "5"}, {"9", "6"}, {"Z", "2"}, {"a", "1"}, {"a", "0"}, {"~", "3"}}
	got, e := tables.Sort(mixed, -2)
	checkTable(t, "Sort -2", mixed, got, e, want, api.OK)
}

// tableFunctions returns the functions that return rows, with all arguments but the tables given.
func tableFunctions() map[string]func(a, b [][]string) [][]string {
	of := func(t [][]string, _ api.Errno) [][]string { return t }
	row := func(l []string, _ api.Errno) [][]string { return [][]string{l} }
	return map[string]func(a, b [][]string) [][]string{
		"Transpose":  func(a, b [][]string) [][]string { return tables.Transpose(a) },
		"Row":        func(a, b [][]string) [][]string { return row(tables.Row(a, 1)) },
		"Column":     func(a, b [][]string) [][]string { return row(tables.Column(a, 1)) },
		"DropRow":    func(a, b [][]string) [][]string { return of(tables.DropRow(a, 1)) },
		"DropColumn": func(a, b [][]string) [][]string { return of(tables.DropColumn(a, 1)) },
		"Sort":       func(a, b [][]string) [][]string { return of(tables.Sort(a, 0)) },
		"Fill":       func(a, b [][]string) [][]string { return tables.Fill(a) },
		"Unpivot":    func(a, b [][]string) [][]string { return of(tables.Unpivot(a, 1)) },
		"Pivot":      func(a, b [][]string) [][]string { return of(tables.Pivot(a)) },
		"Stack":      func(a, b [][]string) [][]string { return of(tables.Stack(a, b)) },
		"First":      func(a, b [][]string) [][]string { return of(tables.Stack(a, nil)) },
		"Second":     func(a, b [][]string) [][]string { return of(tables.Stack(nil, b)) },
		"Beside":     func(a, b [][]string) [][]string { return of(tables.Beside(a, b)) },
		"Split":      func(a, b [][]string) [][]string { return of(tables.Split(a, 1, "-")) },
	}
}

func cloneTable(t [][]string) [][]string {
	var rows [][]string
	for _, row := range t {
		rows = append(rows, slices.Clone(row))
	}
	return rows
}

// first3 returns the first 3 rows and columns, behind which the memory has more.
func first3(t [][]string) [][]string {
	rows := slices.Clone(t)
	for i := range 3 {
		rows[i] = rows[i][:3]
	}
	return rows[:3]
}

// Rule 5: arguments are not modified, and results share no memory with them or with other results.
func TestResultsAreNewMemory(t *testing.T) {
	for name, f := range tableFunctions() {
		wholeA := [][]string{{"n", "y", "1", "."}, {"", "z-z", "2", "."}, {"k", "", "", "."}, {"."}}
		wholeB := [][]string{{"x", "y", "5", "."}, {"y", "y", "", "."}, {"l", "m", "6", "."}, {"."}}
		a, b := first3(wholeA), first3(wholeB)
		was := slices.Concat(cloneTable(wholeA), cloneTable(wholeB), cloneTable(a[:4]), cloneTable(b[:4]))
		first, second := f(a, b), f(a, b)
		if len(first) == 0 || len(first[0]) == 0 || !sameTable(first, second) {
			t.Errorf("%s is %q, and then %q", name, first, second)
		}
		spoil(first)
		if now := slices.Concat(wholeA, wholeB, a[:4], b[:4]); !sameTable(now, was) {
			t.Errorf("%s: the arguments were %q, and are %q", name, was, now)
		}
		if third := f(a, b); !sameTable(second, third) {
			t.Errorf("%s shares memory with an earlier result: %q is not %q", name, second, third)
		}
	}
}

// spoil writes to all memory of a table.
func spoil(t [][]string) {
	for _, row := range t {
		for k := range row[:cap(row)] {
			row[:cap(row)][k] = "spoilt"
		}
	}
	clear(t[:cap(t)])
}

// No two rows of a result share memory.
func TestRowsAreNewMemory(t *testing.T) {
	for name, f := range tableFunctions() {
		a := [][]string{{"n", "y", "1"}, {"", "z-z", "2"}, {"k", "", ""}}
		b := [][]string{{"x", "y", "5"}, {"y", "y", ""}, {"l", "m", "6"}}
		rows := f(a, b)
		for i := range rows {
			want := cloneTable(rows[i+1:])
			spoil(rows[i : i+1 : i+1])
			if !sameTable(rows[i+1:], want) {
				t.Errorf("%s: row %d shares memory with one below", name, i)
			}
		}
	}
}
