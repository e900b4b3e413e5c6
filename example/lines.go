package example

import (
	"strings"

	"synthesis/api"
	"synthesis/literal"
)

// arrow stands between the inputs and the output of an example. Where there are inputs, a space precedes it.
const arrow = "-> "

// Print returns the examples as text, one in each line.
func Print(list []api.Example) (string, api.Errno) {
	if len(list) > api.MaxExamples {
		return "", api.ErrSize
	}
	var b strings.Builder
	for _, x := range list {
		line, e := printOne(x)
		if e != api.OK {
			return "", e
		}
		b.WriteString(line)
		b.WriteByte('\n')
	}
	return b.String(), api.OK
}

// printOne returns the line of an example without its line feed.
func printOne(x api.Example) (string, api.Errno) {
	inputs, e := literal.PrintAll(x.Inputs)
	if e != api.OK {
		return "", e
	}
	output, e := literal.Print(x.Output)
	if e != api.OK {
		return "", e
	}
	if len(x.Inputs) > 0 {
		inputs += " "
	}
	return inputs + arrow + output, api.OK
}

// Parse reads what Print writes, or returns the number of the first faulty line.
func Parse(s string) ([]api.Example, int, api.Errno) {
	if len(s) > api.MaxSource {
		return nil, 0, api.ErrSize
	}
	var list []api.Example
	for s != "" {
		if len(list) == api.MaxExamples {
			return nil, api.MaxExamples + 1, api.ErrSize
		}
		line, rest, isEnded := strings.Cut(s, "\n")
		x, isLine := parseOne(line)
		if !isEnded || !isLine {
			return nil, len(list) + 1, api.ErrSyntax
		}
		list = append(list, x)
		s = rest
	}
	return list, 0, api.OK
}

// parseOne returns the example with a line, which is given without its line feed.
func parseOne(line string) (api.Example, bool) {
	inputs, output, isSplit := split(line)
	if !isSplit {
		return api.Example{}, false
	}
	tuple, _, e := literal.ParseAll(inputs)
	if e != api.OK {
		return api.Example{}, false
	}
	v, _, e := literal.Parse(output)
	return api.Example{Inputs: tuple, Output: v}, e == api.OK
}

// split returns what stands before and after the arrow of a line.
func split(line string) (inputs, output string, isSplit bool) {
	if output, hasNoInputs := strings.CutPrefix(line, arrow); hasNoInputs {
		return "", output, true
	}
	// No literals go on with a space after the last one, so that the inputs end at the fault, even if there are arrows in them.
	_, fault, _ := literal.ParseAll(line)
	output, isSplit = strings.CutPrefix(line[fault:], " "+arrow)
	return line[:fault], output, isSplit && fault > 0
}
