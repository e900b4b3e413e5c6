package operator_test

import (
	"math"
	"slices"
	"strings"
	"testing"

	"synthesis/api"
	"synthesis/operator"
)

// catalog is the table of DOC.md, section Operators.
const catalog = `logic: and (B, B) B; or (B, B) B; not (B) B; ifint (B, I, I) I; iftext (B, T, T) T; ifbits (B, V, V) V
numbers: add (I, I) I; sub (I, I) I; mul (I, I) I; neg (I) I; min (I, I) I; max (I, I) I; eqint (I, I) B; less (I, I) B
texts: concat (T, T) T; slice (T, I, I) T; len (T) I; upper (T) T; lower (T) T; trim (T) T; find (T, T) I; replace (T, T, T) T; word (T, I) T; char (T, I) T; repeat (T, I) T; show (I) T; read (T) I; eqtext (T, T) B; split (T, T) S; join (S, T) T; item (S, I) T; sorttexts (S) S; revtexts (S) S
patterns: start (T, P, I) I; end (T, P, I) I; extract (T, P, I) T; erase (T, P) T; occurs (T, P) I; matches (T, P) B; plit (T) P; pcat (P, P) P; palt (P, P) P; pstar (P) P
lists: head (L) I; last (L) I; take (L, I) L; drop (L, I) L; reverse (L) L; sort (L) L; unique (L) L; sum (L) I; shift (L, I) L; scale (L, I) L; above (L, I) L; even (L) L; zip (L, L) L; append (L, L) L; element (L, I) I; count (L, I) I; maximum (L) I; minimum (L) I; running (L) L; length (L) I
tables: transpose (M) M; row (M, I) S; column (M, I) S; droprow (M, I) M; dropcolumn (M, I) M; sorttable (M, I) M; fill (M) M; unpivot (M, I) M; pivot (M) M; cell (M, I, I) T; stack (M, M) M; beside (M, M) M; splitcolumn (M, I, T) M
bits: band (V, V) V; bor (V, V) V; bxor (V, V) V; bnot (V) V; badd (V, V) V; bsub (V, V) V; bmul (V, V) V; bleft (V, I) V; bright (V, I) V; barith (V, I) V; ones (V) I; eqbits (V, V) B`

// typeLetters has the letters of the types in the catalog, in the order of their numbers.
const typeLetters = "BITVLSMP"

// entry is an operator of the catalog.
type entry struct {
	family string
	api.Operator
}

// entries reads the catalog.
func entries() []entry {
	var all []entry
	for _, line := range strings.Split(catalog, "\n") {
		family, operators, _ := strings.Cut(line, ": ")
		for _, text := range strings.Split(operators, "; ") {
			name, signature, _ := strings.Cut(text, " ")
			o := api.Operator{Name: name}
			for i := range len(signature) {
				if t := strings.IndexByte(typeLetters, signature[i]); t >= 0 {
					o.Args = append(o.Args, t+1)
				}
			}
			last := len(o.Args) - 1
			o.Args, o.Result = o.Args[:last], o.Args[last]
			all = append(all, entry{family, o})
		}
	}
	return all
}

// strangers are names of no operator.
func strangers() []string {
	return []string{"", " ", "plus", "And", "AND", "and ", " and", "and or", "logic", "texts", "ad", "addd", "eq", "\x00", "and\x00", "str.len", strings.Repeat("and", 100000)}
}

// P9.1
func TestNames(t *testing.T) {
	var want []string
	for _, o := range entries() {
		want = append(want, o.Name)
	}
	if got := operator.Names(); !slices.Equal(got, want) || len(got) != 88 {
		t.Error(got, want)
	}
}

// P9.1
func TestFind(t *testing.T) {
	for _, want := range entries() {
		got, ok := operator.Find(want.Name)
		if !ok || got.Name != want.Name || !slices.Equal(got.Args, want.Args) || got.Result != want.Result {
			t.Errorf("Find(%q) is %v, %v, not %v", want.Name, got, ok, want.Operator)
		}
	}
	for _, name := range strangers() {
		if o, ok := operator.Find(name); ok || o.Name != "" || o.Args != nil || o.Result != 0 {
			t.Errorf("Find(%q) is %v, %v", name, o, ok)
		}
	}
}

// P9.3
func TestFamily(t *testing.T) {
	for _, o := range entries() {
		if got := operator.Family(o.Name); got != o.family {
			t.Errorf("Family(%q) is %q, not %q", o.Name, got, o.family)
		}
	}
	for _, name := range strangers() {
		if got := operator.Family(name); got != "" {
			t.Errorf("Family(%q) is %q", name, got)
		}
	}
}

// P9.3
func TestReturning(t *testing.T) {
	for _, result := range []int{math.MinInt, -8, -1, 0, 1, 2, 3, 4, 5, 6, 7, 8, 9, 10, 256, math.MaxInt} {
		var want []string
		for _, o := range entries() {
			if o.Result == result {
				want = append(want, o.Name)
			}
		}
		if got := operator.Returning(result); !slices.Equal(got, want) {
			t.Errorf("Returning(%d) is %v, not %v", result, got, want)
		}
		if isType := api.Bool <= result && result <= api.Pattern; isType != (len(want) > 0) {
			t.Errorf("type %d has %d operators", result, len(want))
		}
	}
}

// P9.4
func TestCommutes(t *testing.T) {
	commuting := strings.Fields("and or add mul min max eqint eqtext zip band bor bxor badd bmul eqbits")
	for _, o := range entries() {
		if got := operator.Commutes(o.Name); got != slices.Contains(commuting, o.Name) {
			t.Errorf("Commutes(%q) is %v", o.Name, got)
		}
	}
	for _, name := range strangers() {
		if operator.Commutes(name) {
			t.Errorf("Commutes(%q)", name)
		}
	}
}

// P9.5: the numbers of arguments, and the families and result types.
func TestCatalogConsequences(t *testing.T) {
	families := map[string]int{}
	returned := map[string][]int{}
	for result := -1; result <= 10; result++ {
		for _, name := range operator.Returning(result) {
			returned[name] = append(returned[name], result)
		}
	}
	for _, name := range operator.Names() {
		o, ok := operator.Find(name)
		if !ok || len(o.Args) < 1 || len(o.Args) > api.MaxArgs {
			t.Error(name, o, ok)
		}
		if !slices.Equal(returned[name], []int{o.Result}) {
			t.Error(name, returned[name], o.Result)
		}
		if operator.Commutes(name) && (len(o.Args) != 2 || o.Args[0] != o.Args[1]) {
			t.Error(name, o.Args)
		}
		families[operator.Family(name)]++
	}
	want := map[string]int{"logic": 6, "numbers": 8, "texts": 19, "patterns": 10, "lists": 20, "tables": 13, "bits": 12}
	for family, operators := range want {
		if families[family] != operators {
			t.Error(family, families[family], operators)
		}
	}
	if len(families) != len(want) {
		t.Error(families)
	}
}

// DOC.md, rule 5: results are new memory.
func TestCatalogIsNewMemory(t *testing.T) {
	clear(operator.Names())
	clear(operator.Returning(api.Bool))
	o, _ := operator.Find("slice")
	clear(o.Args)
	TestNames(t)
	TestReturning(t)
	TestFind(t)
}
