package spec

import (
	"strings"

	"synthesis/api"
	"synthesis/example"
	"synthesis/formula"
	"synthesis/literal"
)

// What the lines of a specification begin with. A space and the values follow the word of an axis that is not empty.
const (
	exampleStart = "example "
	formulaStart = "formula "
	axisWord     = "axis"
)

// specText returns the text of a specification, however long it is.
func specText(s api.Spec) (string, api.Errno) {
	var b strings.Builder
	for _, x := range s.Examples {
		line, e := example.Print([]api.Example{x})
		if e != api.OK {
			return "", e
		}
		b.WriteString(exampleStart + line)
	}
	constraint, e := formula.Print(s.Formula)
	if e != api.OK {
		return "", e
	}
	b.WriteString(formulaStart + constraint + "\n")
	for _, axis := range s.Domain.Axes {
		values, e := literal.PrintAll(axis)
		if e != api.OK {
			return "", e
		}
		if len(axis) > 0 {
			values = " " + values
		}
		b.WriteString(axisWord + values + "\n")
	}
	return b.String(), api.OK
}

// A reader composes a specification from its lines, which are given without their line feeds.
type reader struct {
	spec       api.Spec
	hasFormula bool
}

// readLine reads the next line, and reports whether it can follow the lines before it.
func (r *reader) readLine(line string) bool {
	if r.hasFormula {
		return r.readAxis(line)
	}
	if text, isExample := strings.CutPrefix(line, exampleStart); isExample {
		return r.readExample(text)
	}
	text, isFormula := strings.CutPrefix(line, formulaStart)
	return isFormula && r.readFormula(text)
}

func (r *reader) readExample(text string) bool {
	list, _, e := example.Parse(text + "\n")
	r.spec.Examples = append(r.spec.Examples, list...)
	return e == api.OK
}

func (r *reader) readFormula(text string) bool {
	f, _, e := formula.Parse(text)
	r.spec.Formula = f
	r.hasFormula = true
	return e == api.OK
}

func (r *reader) readAxis(line string) bool {
	text, isAxis := strings.CutPrefix(line, axisWord)
	if !isAxis {
		return false
	}
	if text == "" {
		r.spec.Domain.Axes = append(r.spec.Domain.Axes, nil)
		return true
	}
	values, hasSpace := strings.CutPrefix(text, " ")
	axis, _, e := literal.ParseAll(values)
	r.spec.Domain.Axes = append(r.spec.Domain.Axes, axis)
	return hasSpace && values != "" && e == api.OK
}
