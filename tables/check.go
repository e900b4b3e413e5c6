package tables

import "synthesis/api"

// Check returns OK if t is a valid table.
func Check(t [][]string) api.Errno {
	if len(t) > api.MaxRows {
		return api.ErrSize
	}
	for _, row := range t {
		if e := checkRow(row, len(t[0])); e != api.OK {
			return e
		}
	}
	return api.OK
}

// checkRow checks a row of a table whose first row has the given number of cells.
func checkRow(row []string, cells int) api.Errno {
	if len(row) < 1 || len(row) > api.MaxCols {
		return api.ErrSize
	}
	if len(row) != cells {
		return api.ErrForm
	}
	for _, cell := range row {
		if e := checkCell(cell); e != api.OK {
			return e
		}
	}
	return api.OK
}

func checkCell(cell string) api.Errno {
	if len(cell) > api.MaxText {
		return api.ErrSize
	}
	for i := range len(cell) {
		if cell[i] < ' ' || cell[i] > '~' {
			return api.ErrForm
		}
	}
	return api.OK
}

// rowIndex returns the index from 0 on of the row i. The error of Check comes first.
func rowIndex(t [][]string, i int) (int, api.Errno) {
	if e := Check(t); e != api.OK {
		return 0, e
	}
	return index(i, len(t))
}

// columnIndex returns the index from 0 on of the column i. The error of Check comes first.
func columnIndex(t [][]string, i int) (int, api.Errno) {
	if e := Check(t); e != api.OK {
		return 0, e
	}
	return index(i, columns(t))
}

// index returns the index from 0 to n-1 that i stands for, which counts from the end if it is negative.
func index(i, n int) (int, api.Errno) {
	if i < 0 {
		i += n
	}
	if i < 0 || i >= n {
		return 0, api.ErrNone
	}
	return i, api.OK
}

// columns returns the number of columns, which is 0 without rows.
func columns(t [][]string) int {
	if len(t) == 0 {
		return 0
	}
	return len(t[0])
}
