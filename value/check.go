package value

import "synthesis/api"

// Check returns OK if v is a valid value, and otherwise the first violation.
func Check(v api.Value) api.Errno {
	if !isType(v.Type) {
		return api.ErrType
	}
	if hasUnusedField(v) {
		return api.ErrForm
	}
	element := api.Text
	switch v.Type {
	case api.Bool:
		return checkRange(v.Num, 0, 1)
	case api.Int:
		return checkRange(v.Num, -api.MaxInt, api.MaxInt)
	case api.Bits:
		return checkRange(v.Num, 0, api.MaxBits)
	case api.Pattern:
		if len(v.Text) < 1 || len(v.Text) > api.MaxPattern {
			return api.ErrSize
		}
		fallthrough
	case api.Text:
		return checkText(v.Text)
	case api.Ints:
		element = api.Int
		fallthrough
	case api.Texts:
		return checkList(v.Items, element)
	}
	return checkTable(v.Items)
}

// hasUnusedField reports whether a field that the type of v does not use is set.
func hasUnusedField(v api.Value) bool {
	var usesNum, usesText, usesItems bool
	switch v.Type {
	case api.Bool, api.Int, api.Bits:
		usesNum = true
	case api.Text, api.Pattern:
		usesText = true
	case api.Ints, api.Texts, api.Table:
		usesItems = true
	}
	return v.Num != 0 && !usesNum || v.Text != "" && !usesText || len(v.Items) > 0 && !usesItems
}

func checkRange(n, least, most int64) api.Errno {
	if n < least || n > most {
		return api.ErrRange
	}
	return api.OK
}

// checkText checks the text of a Text. It serves for a Pattern too, whose size limit is the smaller one.
func checkText(s string) api.Errno {
	if len(s) > api.MaxText {
		return api.ErrSize
	}
	for i := range len(s) {
		if s[i] < ' ' || s[i] > '~' {
			return api.ErrRange
		}
	}
	return api.OK
}

func checkList(items []api.Value, element int) api.Errno {
	if len(items) > api.MaxItems {
		return api.ErrSize
	}
	for _, item := range items {
		if item.Type != element {
			return api.ErrType
		}
		if e := Check(item); e != api.OK {
			return e
		}
	}
	return api.OK
}

func checkTable(rows []api.Value) api.Errno {
	if len(rows) > api.MaxRows {
		return api.ErrSize
	}
	for _, row := range rows {
		if row.Type != api.Texts {
			return api.ErrType
		}
		cells := len(row.Items)
		if cells < 1 || cells > api.MaxCols || cells != len(rows[0].Items) {
			return api.ErrSize
		}
		if e := Check(row); e != api.OK {
			return e
		}
	}
	return api.OK
}
