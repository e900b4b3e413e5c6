package formula_test

import (
	"reflect"
	"slices"
	"strconv"
	"strings"
	"testing"

	"synthesis/api"
	"synthesis/formula"
	"synthesis/literal"
	"synthesis/operator"
	"synthesis/value"
)

// The kinds of pieces of what may still follow a beginning of a text.
const (
	bytesPiece   = iota // these bytes
	formulaPiece        // a formula of a level
	operandPiece        // an operand of a level
	literalPiece        // the rest of a literal that begins with these bytes
	subsPiece           // a parenthesis, or a formula of a level and more of them
	morePiece           // a parenthesis, or a comma, a space, a formula of a level and more of them
)

type piece struct {
	kind  int
	text  string
	level int
}

// choices returns all that a piece other than bytes and literals may be.
func choices(p piece) [][]piece {
	bytes := func(s string) piece { return piece{bytesPiece, s, 0} }
	operand, sub := piece{operandPiece, "", 1}, piece{formulaPiece, "", p.level + 1}
	var all [][]piece
	switch p.kind {
	case formulaPiece:
		for _, s := range []string{"true", "false"} {
			all = append(all, []piece{bytes(s)})
		}
		for _, s := range []string{"and(", "or("} {
			all = append(all, []piece{bytes(s), {subsPiece, "", p.level + 1}})
		}
		for _, s := range []string{"eq(", "lt("} {
			all = append(all, []piece{bytes(s), operand, bytes(", "), operand, bytes(")")})
		}
		all = append(all, []piece{bytes("is("), operand, bytes(")")})
		if p.level < api.MaxDepth {
			all = append(all, []piece{bytes("not("), sub, bytes(")")})
		}
	case operandPiece:
		all = [][]piece{{bytes("out")}, {bytes("in0")}, {bytes("in1")}, {bytes("in2")}, {bytes("in3")}, {{literalPiece, "", 0}}}
		for _, name := range operator.Names() {
			if p.level == api.MaxDepth {
				break
			}
			o, _ := operator.Find(name)
			list := []piece{bytes(name + "(")}
			for range o.Args {
				list = append(list, piece{operandPiece, "", p.level + 1}, bytes(", "))
			}
			list[len(list)-1] = bytes(")")
			all = append(all, list)
		}
	case subsPiece, morePiece:
		all = [][]piece{{bytes(")")}}
		if p.level <= api.MaxDepth && p.kind == morePiece {
			all = append(all, []piece{bytes(", "), {formulaPiece, "", p.level}, p})
		}
		if p.level <= api.MaxDepth && p.kind == subsPiece {
			all = append(all, []piece{{formulaPiece, "", p.level}, {morePiece, "", p.level}})
		}
	}
	return all
}

// after returns all that may follow when c has been read of what pieces stand for.
func after(pieces []piece, c byte) [][]piece {
	if len(pieces) == 0 {
		return nil
	}
	first, rest := pieces[0], pieces[1:]
	switch first.kind {
	case bytesPiece:
		if first.text[0] != c {
			return nil
		}
		if len(first.text) == 1 {
			return [][]piece{rest}
		}
		return [][]piece{append([]piece{{bytesPiece, first.text[1:], 0}}, rest...)}
	case literalPiece:
		var all [][]piece
		longer := first.text + string([]byte{c})
		if _, n, e := literal.Parse(longer); e == api.OK || n == len(longer) {
			all = append(all, append([]piece{{literalPiece, longer, 0}}, rest...))
		}
		if isLiteral(first.text) {
			all = append(all, after(rest, c)...)
		}
		return all
	}
	var all [][]piece
	for _, choice := range choices(first) {
		all = append(all, after(append(choice, rest...), c)...)
	}
	return all
}

func isLiteral(s string) bool {
	_, _, e := literal.Parse(s)
	return e == api.OK
}

// isComplete reports whether nothing need follow.
func isComplete(pieces []piece) bool {
	return len(pieces) == 0 || len(pieces) == 1 && pieces[0].kind == literalPiece && isLiteral(pieces[0].text)
}

// An oracle finds the faults of texts, and remembers what may follow their beginnings.
type oracle map[string][][]piece

func (o oracle) following(s string) [][]piece {
	if s == "" {
		return [][]piece{{{formulaPiece, "", 1}}}
	}
	if all, isKnown := o[s]; isKnown {
		return all
	}
	var all [][]piece
	for _, pieces := range o.following(s[:len(s)-1]) {
		all = append(all, after(pieces, s[len(s)-1])...)
	}
	o[s] = all
	return all
}

// fault returns the length of the longest beginning of a formula in s, and whether s is a formula.
func (o oracle) fault(s string) (int, bool) {
	n := 0
	for n < len(s) && len(o.following(s[:n+1])) > 0 {
		n++
	}
	return n, n == len(s) && slices.ContainsFunc(o.following(s), isComplete)
}

// check compares Parse with the oracle.
func (o oracle) check(t *testing.T, s string) {
	t.Helper()
	want, isFormula := o.fault(s)
	f, at, e := formula.Parse(s)
	if isFormula {
		if at != 0 || e != api.OK || printed(f) != s {
			t.Fatalf("Parse of %q is %v, %d, %d", s, f, at, e)
		}
		return
	}
	if at != want || e != api.ErrSyntax || !isZero(f) {
		t.Fatalf("Parse of %q is %v, %d, %d, not %d", s, f, at, e, want)
	}
}

// P18.6, P18.8: formulas are read as they were written.
func TestParse(t *testing.T) {
	for _, x := range textCases() {
		f, at, e := formula.Parse(x.text)
		if at != 0 || e != api.OK || !reflect.DeepEqual(f, x.f) && printed(f) != printed(x.f) {
			t.Errorf("Parse of %q is %v, %d, %d", x.text, f, at, e)
		}
	}
	// All fields are as they should be, not only the text.
	f, _, _ := formula.Parse("and(not(true), lt(add(in2, -1), out))")
	want := form(api.FormAnd, not(form(api.FormTrue)), less(apply("add", input(2), number(-1)), output()))
	if !reflect.DeepEqual(f, want) {
		t.Error(f)
	}
	for _, f := range small() {
		if again, at, e := formula.Parse(printed(f)); at != 0 || e != api.OK || printed(again) != printed(f) {
			t.Fatal(printed(f), at, e)
		}
	}
}

// P18.6: faults that are known.
func TestFaults(t *testing.T) {
	a65 := strings.Repeat("a", 65)
	for _, x := range []struct {
		s    string
		want int
	}{
		{"", 0}, {"x", 0}, {" true", 0}, {"(true)", 0}, {"True", 0}, {"out", 1}, {"in0", 1}, {"1", 0}, {"\x00", 0}, {"\xff", 0}, {"add(1, 1)", 1},
		{"t", 1}, {"tru", 3}, {"trim", 2}, {"truex", 4}, {"true ", 4}, {"true(", 4}, {"true)", 4}, {"fals", 4}, {"falsetrue", 5},
		{"n", 1}, {"not", 3}, {"not()", 4}, {"not(", 4}, {"not (", 3}, {"nit(true)", 1}, {"not(true", 8}, {"not(true, true)", 8}, {"not(true) ", 9},
		{"a", 1}, {"and", 3}, {"and(", 4}, {"and( )", 4}, {"and(,", 4}, {"and(true,true)", 9}, {"and(true,", 9}, {"and(true, ", 10}, {"and(true, )", 10}, {"and(true  ", 8}, {"and())", 5}, {"or(true;", 7}, {"o(", 1},
		{"is", 2}, {"is()", 3}, {"is(1, 2)", 4}, {"is(1", 4}, {"is(12", 5}, {"is(true", 7}, {"is(true)x", 8}, {"is(truex", 7}, {"is(tri)", 6}, {"is(tru)", 6},
		{"eq(1)", 4}, {"eq(1, )", 6}, {"eq(1,2)", 5}, {"eq(1, 2, 3)", 7}, {"eq(out)", 6}, {"lt(", 3}, {"lt(out, in", 10}, {"le(1, 2)", 1},
		{"eq(in4, 1)", 5}, {"eq(in, 1)", 5}, {"eq(in00, 1)", 6}, {"eq(in10, 1)", 6}, {"eq(ou, 1)", 5}, {"eq(output, 1)", 6}, {"is(i0)", 4},
		{"eq(out, 01)", 9}, {"is(-0)", 4}, {"is(1000001)", 9}, {"is(10000000)", 10}, {"is(-)", 4}, {"is(+1)", 3}, {"is(0x)", 5}, {"is(0x1)", 6}, {"is(0x123)", 7}, {"is(0X11)", 4}, {"is(0xG)", 5}, {"is(1x)", 4},
		{"eq(out, \"a)", 11}, {"is(\"" + a65 + "\")", 68}, {"is(\"\\n\")", 5}, {"is(\"\n\")", 4}, {"is(r)", 4}, {"is(r\"\")", 5}, {"is(ro)", 5}, {"is(ra\")", 4}, {"is([1,2])", 6}, {"is({1})", 4}, {"is(<{\"a\"}, {}>)", 12}, {"is([1, 2)", 8},
		{"lt(div, 1)", 4}, {"is(add(1, 2, 3))", 11}, {"is(add(1))", 8}, {"is(add)", 6}, {"is(add (1, 2))", 6}, {"is(neg())", 7}, {"is(eq(1, 1))", 5}, {"is(is(1))", 4}, {"is(mi(1, 2))", 5}, {"is(minimu(1))", 9}, {"is(mini", 7}, {"is(sort[1])", 7}, {"is(sorttext(", 11}, {"is(eqtext(1,", 12}, {"is(ADD(1, 2))", 3},
	} {
		f, at, e := formula.Parse(x.s)
		if at != x.want || e != api.ErrSyntax || !isZero(f) {
			t.Errorf("Parse of %q is %v, %d, %d, not %d", x.s, f, at, e, x.want)
		}
		if at, isFormula := (oracle{}).fault(x.s); at != x.want || isFormula {
			t.Errorf("the fault of %q is %d, %t, not %d", x.s, at, isFormula, x.want)
		}
	}
}

// P18.6: on the last levels, nothing stands that needs another one.
func TestFaultsOfLevels(t *testing.T) {
	for _, x := range []struct {
		open, text string
		levels     int
	}{
		{"not(", "true", 31}, {"not(", "not(true)", 30}, {"not(", "not(true)", 31}, {"and(", "not(is(1))", 31}, {"and(", "n", 31}, {"or(", "not", 30}, {"or(", "and()", 31}, {"or(", "or()", 31}, {"or(", "and(true)", 31}, {"or(", "and(", 31}, {"or(", "and(true)", 30}, {"or(", "and( ", 31},
		{"and(", "or(or(), and(true))", 30}, {"and(", "or(true, and(false))", 29}, {"and(", "eq(add(1, 1), neg(1))", 31}, {"and(", "is(neg(1))", 32}, {"or(", "true", 32}, {"or(", "x", 40},
		{"is(neg(", "1", 1},
	} {
		for _, s := range []string{wrapped(x.open, x.levels, x.text), strings.Repeat(x.open, x.levels) + x.text} {
			oracle{}.check(t, s)
		}
	}
	for _, x := range []struct {
		text   string
		levels int
	}{
		{"1", 31}, {"in3", 31}, {"out", 31}, {"r\"a\"", 31}, {"true", 31}, {"neg(1)", 30}, {"neg(1)", 31}, {"n", 31}, {"one", 31}, {"ones(1)", 30}, {"re", 31}, {"fin", 31}, {"find(1, 1)", 31}, {"falsy", 31}, {"trim(1)", 31}, {"tri", 30}, {"or(1, 1)", 31}, {"or(1, neg(1))", 30}, {"add(neg(1), 1)", 29}, {"add(1, neg(1))", 30}, {"i", 31}, {"x", 31}, {"x", 30}, {"1", 32}, {"0x", 31}, {"1", 40},
	} {
		inner := wrapped("neg(", x.levels, x.text)
		for _, s := range []string{"is(" + inner + ")", "eq(1, " + inner + ")", "lt(" + inner + ", 1)", "not(is(" + strings.Repeat("neg(", x.levels) + x.text, wrapped("not(", 31, "is("+inner+")")} {
			oracle{}.check(t, s)
		}
	}
	if _, at, e := formula.Parse(wrapped("not(", 32, "true")); at != 31*4 || e != api.ErrSyntax {
		t.Error(at, e)
	}
	if _, at, e := formula.Parse("is(" + wrapped("neg(", 32, "1") + ")"); at != 3+31*4 || e != api.ErrSyntax {
		t.Error(at, e)
	}
}

// P18.6: texts that are almost formulas.
func TestFaultsOfMutations(t *testing.T) {
	const bytes = "\x00 !\"(),-/01234<>AF[\\]_adefilnorstuxz{}~\x7f\xe9"
	for _, s := range []string{
		"true", "not(and(is(in0), or()))", "eq(out, add(in0, -12))", "lt(slice(in3, 0x0f, r\"a\"), {\"b\", \"\"})", `is(<{"a", "b"}, {"c", "d"}>)`, `or(false, eq("\"\\", [1, -2]))`, "and(or(and()))", "is(minimum(true))",
		"and(true, false, lt(1000000, 0))",
	} {
		o := oracle{}
		for i := range len(s) + 1 {
			o.check(t, s[:i])
			o.check(t, s[i:])
			for _, c := range []byte(bytes) {
				o.check(t, s[:i]+string(rune(c))+s[i:])
				if i < len(s) {
					o.check(t, s[:i]+string([]byte{c})+s[i+1:])
				}
			}
			if i < len(s) {
				o.check(t, s[:i]+s[i+1:])
			}
		}
	}
}

// P18.6: all short texts over some small alphabets.
func TestFaultsOfShortTexts(t *testing.T) {
	for _, x := range []struct {
		parts  []string
		length int
	}{
		{[]string{"not(", "and(", "or(", ")", ", ", "true", "is(1)"}, 6},
		{[]string{"eq(", "lt(", "in0", "out", ", ", ")", "neg(", "1", "0x"}, 6},
		{[]string{"is(", "add(", "(", ")", ",", " ", "r", "\"", "a"}, 6},
	} {
		o := oracle{}
		var extend func(s string, left int)
		extend = func(s string, left int) {
			o.check(t, s)
			// What follows a fault does not matter.
			if at, _ := o.fault(s); at < len(s) {
				return
			}
			for i := 0; i < len(x.parts) && left > 0; i++ {
				extend(s+x.parts[i], left-1)
			}
		}
		extend("", x.length)
	}
}

// P18.6: every operator needs its name and all of its arguments.
func TestFaultsOfOperators(t *testing.T) {
	o := oracle{}
	for _, name := range operator.Names() {
		signature, _ := operator.Find(name)
		for n := range 5 {
			s := "is(" + name + "(" + strings.Join(slices.Repeat([]string{"in1"}, n), ", ") + "))"
			o.check(t, s)
			if f, _, e := formula.Parse(s); (e == api.OK) != (n == len(signature.Args)) || e == api.OK && (f.Left.Op != name || len(f.Left.Subs) != n) {
				t.Error(s, f, e)
			}
		}
		for _, s := range []string{name, name + " (", name + "x(1)", name + "1(1)", strings.ToUpper(name) + "(1)", name[1:] + "(1)"} {
			o.check(t, "is("+s+")")
		}
	}
	for i := range 12 {
		o.check(t, "is(in"+strconv.Itoa(i)+")")
	}
}

// P18.6, P18.8: constants of all types are read as they were written.
func TestParseOfConstants(t *testing.T) {
	for _, v := range []api.Value{
		value.OfBool(false), value.OfInt(-api.MaxInt), value.OfInt(api.MaxInt), value.OfBits(255), value.OfText(strings.Repeat("\"", 64)), value.OfText("out"), value.OfInts(make([]int64, 16)),
		value.OfTexts([]string{"in0", "), ", ""}), value.OfTable([][]string{{"<", ">"}, {"{", "}"}}), value.OfPattern("[a-z]*\\."),
	} {
		want := equal(constant(v), apply("add", constant(v), constant(v)))
		f, at, e := formula.Parse(printed(want))
		if at != 0 || e != api.OK || !value.Equal(f.Left.Const, v) || f.Left.Kind != api.OperandConst || len(f.Right.Subs) != 2 || !value.Equal(f.Right.Subs[1].Const, v) {
			t.Errorf("Parse of %s is %v, %d, %d", printed(want), f, at, e)
		}
	}
}
