package tables

import (
	"slices"
	"strings"

	"synthesis/api"
)

// Unpivot turns the columns after the first keep ones into rows of a name and a value; row 0 is the header.
func Unpivot(t [][]string, keep int) ([][]string, api.Errno) {
	if e := checkUnpivot(t, keep); e != api.OK {
		return nil, e
	}
	var rows [][]string
	header := t[0]
	for _, row := range t[1:] {
		for k := keep; k < len(row); k++ {
			rows = append(rows, joined(row[:keep], []string{header[k], row[k]}))
		}
	}
	return rows, api.OK
}

func checkUnpivot(t [][]string, keep int) api.Errno {
	if e := Check(t); e != api.OK {
		return e
	}
	if len(t) == 0 {
		return api.ErrNone
	}
	if keep < 0 || keep >= columns(t) {
		return api.ErrRange
	}
	if keep+2 > api.MaxCols || (len(t)-1)*(columns(t)-keep) > api.MaxRows {
		return api.ErrSize
	}
	return api.OK
}

// pair is what a row of a table to pivot gives the value for.
type pair struct {
	key, name string
}

// Pivot turns rows of a key, a name and a value into a table with a column for each name.
func Pivot(t [][]string) ([][]string, api.Errno) {
	values, e := valuesByPair(t)
	if e != api.OK {
		return nil, e
	}
	keys, names := distinct(cellsOf(t, 0)), distinct(cellsOf(t, 1))
	if 1+len(keys) > api.MaxRows || 1+len(names) > api.MaxCols {
		return nil, api.ErrSize
	}
	rows := [][]string{joined([]string{""}, names)}
	for _, key := range keys {
		row := []string{key}
		for _, name := range names {
			row = append(row, values[pair{key, name}])
		}
		rows = append(rows, row)
	}
	return rows, api.OK
}

// valuesByPair returns the values of the rows of a table to pivot.
func valuesByPair(t [][]string) (map[pair]string, api.Errno) {
	if e := Check(t); e != api.OK {
		return nil, e
	}
	if len(t) == 0 {
		return nil, api.ErrNone
	}
	if columns(t) != 3 {
		return nil, api.ErrForm
	}
	values := map[pair]string{}
	for _, row := range t {
		at := pair{row[0], row[1]}
		if _, ok := values[at]; ok {
			return nil, api.ErrTwice
		}
		values[at] = row[2]
	}
	return values, api.OK
}

// distinct returns each cell once, in the order of the first occurrences.
func distinct(cells []string) []string {
	var found []string
	for _, cell := range cells {
		if !slices.Contains(found, cell) {
			found = append(found, cell)
		}
	}
	return found
}

// Stack puts the rows of b below those of a.
func Stack(a, b [][]string) ([][]string, api.Errno) {
	if e := checkBoth(a, b); e != api.OK {
		return nil, e
	}
	if len(a) > 0 && len(b) > 0 && columns(a) != columns(b) {
		return nil, api.ErrForm
	}
	if len(a)+len(b) > api.MaxRows {
		return nil, api.ErrSize
	}
	return duplicate(a, b), api.OK
}

// Beside puts the columns of b behind those of a.
func Beside(a, b [][]string) ([][]string, api.Errno) {
	if e := checkBoth(a, b); e != api.OK {
		return nil, e
	}
	if len(a) != len(b) {
		return nil, api.ErrForm
	}
	if columns(a)+columns(b) > api.MaxCols {
		return nil, api.ErrSize
	}
	rows := make([][]string, len(a))
	for i := range rows {
		rows[i] = joined(a[i], b[i])
	}
	return rows, api.OK
}

func checkBoth(a, b [][]string) api.Errno {
	if e := Check(a); e != api.OK {
		return e
	}
	return Check(b)
}

// Split divides the cells of a column in two at the first occurrence of a separator.
func Split(t [][]string, column int, by string) ([][]string, api.Errno) {
	column, e := columnIndex(t, column)
	if e != api.OK {
		return nil, e
	}
	if by == "" {
		return nil, api.ErrForm
	}
	if columns(t) == api.MaxCols {
		return nil, api.ErrSize
	}
	return eachRow(t, func(row []string) []string {
		before, after, _ := strings.Cut(row[column], by)
		return joined(row[:column], []string{before, after}, row[column+1:])
	}), api.OK
}
