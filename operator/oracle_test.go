package operator_test

import (
	"strings"

	"synthesis/api"
	"synthesis/bitvec"
	"synthesis/lists"
	"synthesis/pattern"
	"synthesis/position"
	"synthesis/strs"
	"synthesis/tables"
	"synthesis/value"
)

// given are the arguments of an operator.
type given []api.Value

func (g given) b(i int) bool       { return g[i].Num == 1 }
func (g given) n(i int) int64      { return g[i].Num }
func (g given) i(i int) int        { return int(g[i].Num) }
func (g given) t(i int) string     { return g[i].Text }
func (g given) l(i int) []int64    { l, _ := value.Ints(g[i]); return l }
func (g given) s(i int) []string   { s, _ := value.Texts(g[i]); return s }
func (g given) m(i int) [][]string { m, _ := value.Rows(g[i]); return m }

// wanted returns what an operator has to return for valid arguments of its types.
func wanted(name string, args []api.Value) (api.Value, api.Errno) {
	v, e := defined(name, given(args))
	if e != api.OK || value.Check(v) != api.OK {
		return api.Value{}, api.ErrUndefined
	}
	return v, api.OK
}

func ofText(s string, e api.Errno) (api.Value, api.Errno)      { return value.OfText(s), e }
func ofIndex(n int, e api.Errno) (api.Value, api.Errno)        { return value.OfInt(int64(n)), e }
func ofInt(n int64, e api.Errno) (api.Value, api.Errno)        { return value.OfInt(n), e }
func ofBool(b bool, e api.Errno) (api.Value, api.Errno)        { return value.OfBool(b), e }
func ofBits(n int) (api.Value, api.Errno)                      { return value.OfBits(int64(n)), api.OK }
func ofPattern(p string, e api.Errno) (api.Value, api.Errno)   { return value.OfPattern(p), e }
func ofInts(l []int64, e api.Errno) (api.Value, api.Errno)     { return value.OfInts(l), e }
func ofTexts(l []string, e api.Errno) (api.Value, api.Errno)   { return value.OfTexts(l), e }
func ofTable(m [][]string, e api.Errno) (api.Value, api.Errno) { return value.OfTable(m), e }
func either(test bool, a, b api.Value) (api.Value, api.Errno) {
	return map[bool]api.Value{true: a, false: b}[test], api.OK
}
func nothing() (api.Value, api.Errno) { return api.Value{}, api.ErrUndefined }
func anyOf(found bool, v api.Value) (v2 api.Value, e api.Errno) {
	return v, map[bool]api.Errno{false: api.ErrNone}[found]
}

// defined follows the definitions of the chapter, operator by operator.
func defined(name string, g given) (api.Value, api.Errno) {
	switch name {
	case "and":
		return ofBool(g.n(0)+g.n(1) == 2, 0)
	case "or":
		return ofBool(g.n(0)+g.n(1) > 0, 0)
	case "not":
		return ofBool(g.n(0) == 0, 0)
	case "ifint", "iftext", "ifbits":
		return either(g.b(0), g[1], g[2])
	case "add":
		return ofInt(g.n(0)+g.n(1), 0)
	case "sub":
		return ofInt(g.n(0)-g.n(1), 0)
	case "mul":
		return ofInt(g.n(0)*g.n(1), 0)
	case "neg":
		return ofInt(0-g.n(0), 0)
	case "min":
		return either(g.n(0) < g.n(1), g[0], g[1])
	case "max":
		return either(g.n(0) > g.n(1), g[0], g[1])
	case "less":
		return ofBool(g.n(1)-g.n(0) > 0, 0)
	case "eqint", "eqtext", "eqbits":
		return ofBool(value.Equal(g[0], g[1]), 0)
	}
	if v, e, ok := definedOnTexts(name, g); ok {
		return v, e
	}
	if v, e, ok := definedOnLists(name, g); ok {
		return v, e
	}
	return definedOnBits(name, g)
}

func definedOnTexts(name string, g given) (v api.Value, e api.Errno, ok bool) {
	ok = true
	switch name {
	case "concat":
		v, e = ofText(strings.Join([]string{g.t(0), g.t(1)}, ""), 0)
	case "slice":
		v, e = ofText(strs.Slice(g.t(0), g.i(1), g.i(2)))
	case "len":
		v, e = ofIndex(len([]byte(g.t(0))), 0)
	case "upper":
		v, e = ofText(strs.Upper(g.t(0)), 0)
	case "lower":
		v, e = ofText(strs.Lower(g.t(0)), 0)
	case "trim":
		v, e = ofText(strs.Trim(g.t(0)), 0)
	case "find":
		at := strs.Find(g.t(0), g.t(1))
		v, e = anyOf(at != -1, value.OfInt(int64(at)))
	case "replace":
		v, e = ofText(strs.Replace(g.t(0), g.t(1), g.t(2)))
	case "word":
		v, e = ofText(strs.Word(g.t(0), g.i(1)))
	case "char":
		v, e = ofText(strs.Char(g.t(0), g.i(1)))
	case "repeat":
		v, e = ofText(strs.Repeat(g.t(0), g.i(1)))
	case "show":
		v, e = ofText(strs.Show(g.n(0)), 0)
	case "read":
		v, e = ofInt(strs.Read(g.t(0)))
	case "split":
		v, e = wantedPieces(g.t(0), g.t(1))
	case "join":
		v, e = ofText(strings.Join(g.s(0), g.t(1)), 0)
	case "item":
		v, e = nothing()
		for i, text := range g.s(0) {
			if i == g.i(1) || i-len(g.s(0)) == g.i(1) {
				v, e = ofText(text, 0)
			}
		}
	case "sorttexts":
		v, e = ofTexts(wantedOrder(g.s(0)), 0)
	case "revtexts":
		var l []string
		for _, text := range g.s(0) {
			l = append([]string{text}, l...)
		}
		v, e = ofTexts(l, 0)
	default:
		v, e, ok = definedOnPatterns(name, g)
	}
	return v, e, ok
}

// wantedPieces returns what stands between the occurrences of by in text.
func wantedPieces(text, by string) (api.Value, api.Errno) {
	if by == "" {
		return nothing()
	}
	pieces := []string{""}
	for text != "" {
		if rest, ok := strings.CutPrefix(text, by); ok {
			pieces, text = append(pieces, ""), rest
			continue
		}
		pieces[len(pieces)-1] += text[:1]
		text = text[1:]
	}
	return ofTexts(pieces, 0)
}

// wantedOrder inserts the texts into a sorted list, one by one.
func wantedOrder(texts []string) []string {
	var sorted []string
	for _, text := range texts {
		at := 0
		for at < len(sorted) && sorted[at] <= text {
			at++
		}
		sorted = append(sorted[:at:at], append([]string{text}, sorted[at:]...)...)
	}
	return sorted
}

func definedOnPatterns(name string, g given) (v api.Value, e api.Errno, ok bool) {
	ok = true
	switch name {
	case "start":
		v, e = ofIndex(position.Start(g.t(1), g.t(0), g.i(2)))
	case "end":
		v, e = ofIndex(position.End(g.t(1), g.t(0), g.i(2)))
	case "extract":
		v, e = ofText(position.Extract(g.t(1), g.t(0), g.i(2)))
	case "erase":
		v, e = ofText(position.Erase(g.t(1), g.t(0)))
	case "occurs":
		v, e = ofIndex(position.Count(g.t(1), g.t(0)))
	case "matches":
		v, e = ofBool(pattern.Match(g.t(1), g.t(0)))
	case "plit":
		v, e = ofPattern(pattern.Literal(g.t(0)), 0)
	case "pcat":
		v, e = ofPattern(pattern.Concat(g.t(0), g.t(1)))
	case "palt":
		v, e = ofPattern(pattern.Alternate(g.t(0), g.t(1)))
	case "pstar":
		v, e = ofPattern(pattern.Star(g.t(0)))
	default:
		ok = false
	}
	return v, e, ok
}

func definedOnLists(name string, g given) (v api.Value, e api.Errno, ok bool) {
	ok = true
	switch name {
	case "head":
		v, e = ofInt(lists.Head(g.l(0)))
	case "last":
		v, e = ofInt(lists.Last(g.l(0)))
	case "take":
		v, e = ofInts(lists.Take(g.l(0), g.i(1)), 0)
	case "drop":
		v, e = ofInts(lists.Drop(g.l(0), g.i(1)), 0)
	case "reverse":
		v, e = ofInts(lists.Reverse(g.l(0)), 0)
	case "sort":
		v, e = ofInts(lists.Sort(g.l(0)), 0)
	case "unique":
		v, e = ofInts(lists.Unique(g.l(0)), 0)
	case "sum":
		v, e = ofInt(lists.Sum(g.l(0)))
	case "shift":
		v, e = ofInts(lists.Shift(g.l(0), g.n(1)))
	case "scale":
		v, e = ofInts(lists.Scale(g.l(0), g.n(1)))
	case "above":
		v, e = ofInts(lists.Above(g.l(0), g.n(1)), 0)
	case "even":
		v, e = ofInts(lists.Even(g.l(0)), 0)
	case "zip":
		v, e = ofInts(lists.Zip(g.l(0), g.l(1)))
	case "append":
		v, e = ofInts(lists.Append(g.l(0), g.l(1)))
	case "element":
		v, e = ofInt(lists.Element(g.l(0), g.i(1)))
	case "count":
		v, e = ofIndex(lists.Count(g.l(0), g.n(1)), 0)
	case "maximum":
		v, e = ofInt(lists.Max(g.l(0)))
	case "minimum":
		v, e = ofInt(lists.Min(g.l(0)))
	case "running":
		v, e = ofInts(lists.Running(g.l(0)))
	case "length":
		v, e = ofIndex(len(g[0].Items), 0)
	default:
		v, e, ok = definedOnTables(name, g)
	}
	return v, e, ok
}

func definedOnTables(name string, g given) (v api.Value, e api.Errno, ok bool) {
	ok = true
	switch name {
	case "transpose":
		v, e = ofTable(tables.Transpose(g.m(0)), 0)
	case "row":
		v, e = ofTexts(tables.Row(g.m(0), g.i(1)))
	case "column":
		v, e = ofTexts(tables.Column(g.m(0), g.i(1)))
	case "droprow":
		v, e = ofTable(tables.DropRow(g.m(0), g.i(1)))
	case "dropcolumn":
		v, e = ofTable(tables.DropColumn(g.m(0), g.i(1)))
	case "sorttable":
		v, e = ofTable(tables.Sort(g.m(0), g.i(1)))
	case "fill":
		v, e = ofTable(tables.Fill(g.m(0)), 0)
	case "unpivot":
		v, e = ofTable(tables.Unpivot(g.m(0), g.i(1)))
	case "pivot":
		v, e = ofTable(tables.Pivot(g.m(0)))
	case "cell":
		v, e = ofText(tables.Cell(g.m(0), g.i(1), g.i(2)))
	case "stack":
		v, e = ofTable(tables.Stack(g.m(0), g.m(1)))
	case "beside":
		v, e = ofTable(tables.Beside(g.m(0), g.m(1)))
	case "splitcolumn":
		v, e = ofTable(tables.Split(g.m(0), g.i(1), g.t(2)))
	default:
		ok = false
	}
	return v, e, ok
}

func definedOnBits(name string, g given) (api.Value, api.Errno) {
	switch name {
	case "band":
		return ofBits(bitvec.And(g.i(0), g.i(1)))
	case "bor":
		return ofBits(bitvec.Or(g.i(0), g.i(1)))
	case "bxor":
		return ofBits(bitvec.Xor(g.i(0), g.i(1)))
	case "bnot":
		return ofBits(bitvec.Not(g.i(0)))
	case "badd":
		return ofBits(bitvec.Add(g.i(0), g.i(1)))
	case "bsub":
		return ofBits(bitvec.Sub(g.i(0), g.i(1)))
	case "bmul":
		return ofBits(bitvec.Mul(g.i(0), g.i(1)))
	case "bleft":
		return ofBits(bitvec.Left(g.i(0), g.i(1)))
	case "bright":
		return ofBits(bitvec.Right(g.i(0), g.i(1)))
	case "barith":
		return ofBits(bitvec.Arith(g.i(0), g.i(1)))
	case "ones":
		return ofIndex(bitvec.Ones(g.i(0)), 0)
	}
	panic("no definition of " + name)
}
