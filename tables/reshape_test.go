package tables_test

import (
	"slices"
	"strconv"
	"strings"
	"testing"

	"synthesis/api"
	"synthesis/tables"
)

// unpivoted returns the result of Unpivot, row by row from its number.
func unpivoted(t [][]string, keep int) ([][]string, api.Errno) {
	if len(t) == 0 {
		return nil, api.ErrNone
	}
	if !slices.Contains([]int{0, 1, 2, 3, 4, 5, 6, 7}[:columnsOf(t)], keep) {
		return nil, api.ErrRange
	}
	turned := columnsOf(t) - keep
	n := (len(t) - 1) * turned
	if keep == 7 || n > 8 {
		return nil, api.ErrSize
	}
	var rows [][]string
	for i := range n {
		from, k := t[1+i/turned], keep+i%turned
		rows = append(rows, append(slices.Clone(from[:keep]), t[0][k], from[k]))
	}
	return rows, api.OK
}

// P8.6
func TestUnpivot(t *testing.T) {
	for _, x := range shortTables() {
		for _, keep := range around(columnsOf(x)) {
			want, wantError := unpivoted(x, keep)
			got, e := tables.Unpivot(x, keep)
			checkTable(t, "Unpivot "+strconv.Itoa(keep), x, got, e, want, wantError)
		}
	}
	header := grid(1, 8)
	for keep, want := range map[int]api.Errno{-1: api.ErrRange, 0: api.OK, 6: api.OK, 7: api.ErrSize, 8: api.ErrRange} {
		got, e := tables.Unpivot(header, keep)
		checkTable(t, "Unpivot "+strconv.Itoa(keep), header, got, e, nil, want)
	}
	got, e := tables.Unpivot([][]string{{"", "x", "y"}, {"k", "1", "2"}}, 1)
	checkTable(t, "Unpivot 1", nil, got, e, [][]string{{"k", "x", "1"}, {"k", "y", "2"}}, api.OK)
	got, e = tables.Unpivot([][]string{{"", "x", "y"}, {"k", "1", "2"}}, 0)
	checkTable(t, "Unpivot 0", nil, got, e, [][]string{{"", "k"}, {"x", "1"}, {"y", "2"}}, api.OK)
}

// firsts returns the cells of a column that are in no row above.
func firsts(t [][]string, k int) []string {
	var found []string
search:
	for i, row := range t {
		for _, earlier := range t[:i] {
			if earlier[k] == row[k] {
				continue search
			}
		}
		found = append(found, row[k])
	}
	return found
}

func pivoted(t [][]string) ([][]string, api.Errno) {
	if len(t) == 0 {
		return nil, api.ErrNone
	}
	if len(t[0]) != 3 {
		return nil, api.ErrForm
	}
	for i, row := range t {
		for _, earlier := range t[:i] {
			if earlier[0] == row[0] && earlier[1] == row[1] {
				return nil, api.ErrTwice
			}
		}
	}
	keys, names := firsts(t, 0), firsts(t, 1)
	if len(keys) > 7 || len(names) > 7 {
		return nil, api.ErrSize
	}
	rows := [][]string{append([]string{""}, names...)}
	for _, key := range keys {
		row := append([]string{key}, make([]string, len(names))...)
		for _, from := range t {
			if from[0] == key {
				row[1+slices.Index(names, from[1])] = from[2]
			}
		}
		rows = append(rows, row)
	}
	return rows, api.OK
}

func runPivotCase(t *testing.T, x [][]string) {
	t.Helper()
	want, wantError := pivoted(x)
	got, e := tables.Pivot(x)
	checkTable(t, "Pivot", x, got, e, want, wantError)
}

// P8.7
func TestPivot(t *testing.T) {
	for _, x := range append(shortTables(), tablesOf(3, 3, "", "k", "l")...) {
		runPivotCase(t, x)
	}
	// Keys and names are paired, and not only put one behind the other.
	for _, x := range tablesOf(4, 2, "", "k", "kk") {
		for i := range x {
			x[i] = append(slices.Clone(x[i]), strconv.Itoa(i))
		}
		runPivotCase(t, x)
	}
	for n := 6; n <= 8; n++ {
		var byKey, byName, byBoth [][]string
		for i := range n {
			digit := strconv.Itoa(i)
			byKey = append(byKey, []string{digit, "x", "v" + digit})
			byName = append(byName, []string{"x", digit, "v" + digit})
			byBoth = append(byBoth, []string{digit, digit, "v" + digit})
		}
		runPivotCase(t, byKey)
		runPivotCase(t, byName)
		runPivotCase(t, byBoth)
		if _, e := tables.Pivot(byName); (e == api.OK) != (n <= 7) {
			t.Errorf("Pivot with %d names: %d", n, e)
		}
		byKey[n-1] = []string{"0", "x", "again"}
		runPivotCase(t, byKey)
	}
	long := [][]string{{text64, text64, text64}, {text64, "", text64[1:]}}
	got, e := tables.Pivot(long)
	checkTable(t, "Pivot", long, got, e, [][]string{{"", text64, ""}, {text64, text64, text64[1:]}}, api.OK)
}

// P8.8
func TestStackAndBeside(t *testing.T) {
	all := [][][]string{nil, {}, {{"a"}}, {{"a", ""}}, {{"b"}, {""}}}
	for rows := 1; rows <= 8; rows++ {
		for columns := 1; columns <= 8; columns++ {
			all = append(all, grid(rows, columns))
		}
	}
	for _, a := range all {
		for _, b := range all {
			wantError := api.OK
			if len(a) > 0 && len(b) > 0 && columnsOf(a) != columnsOf(b) {
				wantError = api.ErrForm
			} else if len(a)+len(b) > 8 {
				wantError = api.ErrSize
			}
			got, e := tables.Stack(a, b)
			checkTable(t, "Stack", append(slices.Clone(a), b...), got, e, slices.Concat(a, b), wantError)

			wantError = api.OK
			var want [][]string
			if len(a) != len(b) {
				wantError = api.ErrForm
			} else if columnsOf(a)+columnsOf(b) > 8 {
				wantError = api.ErrSize
			} else {
				for i := range a {
					want = append(want, slices.Concat(a[i], b[i]))
				}
			}
			got, e = tables.Beside(a, b)
			checkTable(t, "Beside", append(slices.Clone(a), b...), got, e, want, wantError)
		}
	}
}

// divided returns what stands before and after the first occurrence of by in s.
func divided(s, by string) []string {
	for i := range len(s) {
		if strings.HasPrefix(s[i:], by) {
			return []string{s[:i], s[i+len(by):]}
		}
	}
	return []string{s, ""}
}

// P8.9
func TestSplit(t *testing.T) {
	all := append(shortTables(), tablesOf(2, 2, "", "-", "a-b-c", "---", "ab", "aab", "A-")...)
	for _, x := range append(all, [][]string{{text64, text64[1:] + "-"}, {text64[:32] + text64[33:], "-" + text64[1:]}}) {
		for _, by := range []string{"", "-", "--", "a", "ab", "0", "\xff", "\x00", text64, text65} {
			for _, i := range around(columnsOf(x)) {
				wantError := api.OK
				k := number(i, columnsOf(x))
				if k < 0 {
					wantError = api.ErrNone
				} else if by == "" {
					wantError = api.ErrForm
				} else if columnsOf(x) == 8 {
					wantError = api.ErrSize
				}
				var want [][]string
				for _, row := range x {
					if wantError == api.OK {
						want = append(want, slices.Concat(row[:k], divided(row[k], by), row[k+1:]))
					}
				}
				got, e := tables.Split(x, i, by)
				checkTable(t, "Split "+strconv.Itoa(i)+" at "+strconv.Quote(by), x, got, e, want, wantError)
			}
		}
	}
	got, e := tables.Split([][]string{{"a-b-c"}}, 0, "-")
	checkTable(t, "Split 0", nil, got, e, [][]string{{"a", "b-c"}}, api.OK)
}

func isDistinct(l []string) bool {
	for i, x := range l {
		if slices.Contains(l[:i], x) {
			return false
		}
	}
	return true
}

// P8.10
func TestPivotOfUnpivot(t *testing.T) {
	checked := 0
	all := append(shortTables(), tablesOf(3, 3, "", "k", "l")...)
	for rows := 2; rows <= 8; rows++ {
		for columns := 2; columns <= 8; columns++ {
			x := grid(rows, columns)
			x[0][0] = ""
			all = append(all, x)
		}
	}
	for _, x := range all {
		if len(x) < 2 || columnsOf(x) < 2 || x[0][0] != "" || !isDistinct(x[0]) || !isDistinct(tables.Transpose(x)[0]) {
			continue
		}
		u, e := tables.Unpivot(x, 1)
		if e != api.OK {
			continue
		}
		checked++
		p, e := tables.Pivot(u)
		checkTable(t, "Pivot of Unpivot", x, p, e, x, api.OK)
	}
	if checked < 300 {
		t.Errorf("only %d tables", checked)
	}
}

// P8.10
func TestTransposeOfStack(t *testing.T) {
	parts := shortTables()[1:]
	few := append(tablesOf(1, 2, "", "c"), tablesOf(2, 2, "c", "d")...)
	for rows := 1; rows <= 8; rows++ {
		few = append(few, grid(rows, 2), grid(rows, 3), grid(rows, 8))
	}
	checked := 0
	for _, a := range parts {
		for _, b := range few {
			stacked, e := tables.Stack(a, b)
			if e != api.OK {
				continue
			}
			checked++
			beside, e := tables.Beside(tables.Transpose(a), tables.Transpose(b))
			checkTable(t, "Beside of Transposes", stacked, beside, e, tables.Transpose(stacked), api.OK)
		}
	}
	if checked < 1000 {
		t.Errorf("only %d pairs", checked)
	}
}
