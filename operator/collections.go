package operator

import (
	"synthesis/lists"
	"synthesis/tables"
)

// ofLists returns the definition of an operator of the family lists.
func ofLists(name string) definition {
	l, x, n := intsKind(), numberKind(), indexKind()
	switch name {
	case "head":
		return one(l, x, lists.Head)
	case "last":
		return one(l, x, lists.Last)
	case "take":
		return two(l, n, l, sure2(lists.Take))
	case "drop":
		return two(l, n, l, sure2(lists.Drop))
	case "reverse":
		return one(l, l, sure1(lists.Reverse))
	case "sort":
		return one(l, l, sure1(lists.Sort))
	case "unique":
		return one(l, l, sure1(lists.Unique))
	case "sum":
		return one(l, x, lists.Sum)
	case "shift":
		return two(l, x, l, lists.Shift)
	case "scale":
		return two(l, x, l, lists.Scale)
	case "above":
		return two(l, x, l, sure2(lists.Above))
	case "even":
		return one(l, l, sure1(lists.Even))
	case "zip":
		return two(l, l, l, lists.Zip)
	case "append":
		return two(l, l, l, lists.Append)
	case "element":
		return two(l, n, x, lists.Element)
	case "count":
		return two(l, x, n, sure2(lists.Count))
	case "maximum":
		return one(l, x, lists.Max)
	case "minimum":
		return one(l, x, lists.Min)
	case "running":
		return one(l, l, lists.Running)
	case "length":
		return one(l, n, sure1(func(a []int64) int { return len(a) }))
	}
	return definition{}
}

// ofTables returns the definition of an operator of the family tables.
func ofTables(name string) definition {
	m, n, l := tableKind(), indexKind(), textsKind()
	switch name {
	case "transpose":
		return one(m, m, sure1(tables.Transpose))
	case "row":
		return two(m, n, l, tables.Row)
	case "column":
		return two(m, n, l, tables.Column)
	case "droprow":
		return two(m, n, m, tables.DropRow)
	case "dropcolumn":
		return two(m, n, m, tables.DropColumn)
	case "sorttable":
		return two(m, n, m, tables.Sort)
	case "fill":
		return one(m, m, sure1(tables.Fill))
	case "unpivot":
		return two(m, n, m, tables.Unpivot)
	case "pivot":
		return one(m, m, tables.Pivot)
	case "cell":
		return three(m, n, n, textKind(), tables.Cell)
	case "stack":
		return two(m, m, m, tables.Stack)
	case "beside":
		return two(m, m, m, tables.Beside)
	case "splitcolumn":
		return three(m, n, textKind(), m, tables.Split)
	}
	return definition{}
}
