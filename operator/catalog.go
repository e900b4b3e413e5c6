package operator

import "strings"

// family is a part of the catalog.
type family struct {
	name string
	// operators has the names of its operators, in the order of the catalog, with a space between them.
	operators string
	// define returns the definition of an operator of the family, and the zero definition for other names.
	define func(name string) definition
}

// families returns the catalog, in its order.
func families() [7]family {
	return [7]family{
		{"logic", "and or not ifint iftext ifbits", ofLogic},
		{"numbers", "add sub mul neg min max eqint less", ofNumbers},
		{"texts", "concat slice len upper lower trim find replace word char repeat show read eqtext split join item sorttexts revtexts", ofTexts},
		{"patterns", "start end extract erase occurs matches plit pcat palt pstar", ofPatterns},
		{"lists", "head last take drop reverse sort unique sum shift scale above even zip append element count maximum minimum running length", ofLists},
		{"tables", "transpose row column droprow dropcolumn sorttable fill unpivot pivot cell stack beside splitcolumn", ofTables},
		{"bits", "band bor bxor bnot badd bsub bmul bleft bright barith ones eqbits", ofBits},
	}
}

// find returns the family and the definition of an operator, and zero values if there is no such operator.
// It tries the families one by one, since a switch in each of them is faster than a map that every call builds.
func find(name string) (string, definition) {
	for _, f := range families() {
		if d := f.define(name); d.apply != nil {
			return f.name, d
		}
	}
	return "", definition{}
}

// selected returns the names of the operators whose definitions are wanted, in the order of the catalog.
func selected(isWanted func(definition) bool) []string {
	var names []string
	for _, f := range families() {
		for _, name := range strings.Fields(f.operators) {
			if isWanted(f.define(name)) {
				names = append(names, name)
			}
		}
	}
	return names
}
