package grammar_test

import (
	"hash/fnv"
	"testing"

	"synthesis/api"
	"synthesis/grammar"
	"synthesis/value"
)

// variants returns languages, valid and not, of which no two are equal.
func variants() []api.Language {
	var all []api.Language
	add := func(change func(*api.Language)) {
		l := everything()
		change(&l)
		all = append(all, l)
	}
	add(func(l *api.Language) {})
	add(func(l *api.Language) { l.Name = "" })
	add(func(l *api.Language) { l.Name = "every-1" })
	add(func(l *api.Language) { l.Inputs = l.Inputs[:3] })
	add(func(l *api.Language) { l.Inputs = nil })
	add(func(l *api.Language) { l.Inputs[0] = -1 })
	add(func(l *api.Language) { l.Symbols = l.Symbols[:7] })
	add(func(l *api.Language) { l.Symbols = nil })
	add(func(l *api.Language) { l.Symbols[7].Name = "" })
	add(func(l *api.Language) { l.Symbols[7].Type = 1 })
	add(func(l *api.Language) { l.Symbols[0], l.Symbols[1] = l.Symbols[1], l.Symbols[0] })
	add(func(l *api.Language) { l.Rules = nil })
	add(func(l *api.Language) { l.Rules = l.Rules[1:] })
	add(func(l *api.Language) { l.Rules = l.Rules[:len(l.Rules)-1] })
	add(func(l *api.Language) { l.Rules[0], l.Rules[1] = l.Rules[1], l.Rules[0] })
	add(func(l *api.Language) { l.Rules[3].Symbol = 5 })
	add(func(l *api.Language) { l.Rules[3].Kind = 0 })
	add(func(l *api.Language) { l.Rules[3].Input = 3 })
	add(func(l *api.Language) { l.Rules[3].Op = "x" })
	add(func(l *api.Language) { l.Rules[3].Args = []int{0} })
	add(func(l *api.Language) { l.Rules[3].Const.Num = 1 })
	add(func(l *api.Language) { l.Rules[2].Const.Num = 12 })
	add(func(l *api.Language) { l.Rules[2].Const.Type = 0 })
	add(func(l *api.Language) { l.Rules[5].Const.Text = "a" })
	add(func(l *api.Language) { l.Rules[7].Const.Items[1].Num = 2 })
	add(func(l *api.Language) { l.Rules[7].Const.Items = l.Rules[7].Const.Items[:1] })
	add(func(l *api.Language) { l.Rules[11].Const.Items[1].Items[1].Text = "" })
	add(func(l *api.Language) { l.Rules[13].Args[1] = 0 })
	add(func(l *api.Language) { l.Rules[13].Args = l.Rules[13].Args[:1] })
	add(func(l *api.Language) { *l = api.Language{} })
	return all
}

// P11.5
func TestSame(t *testing.T) {
	for i, a := range variants() {
		for k, b := range variants() {
			if got := grammar.Same(a, b); got != (i == k) {
				t.Errorf("variants %d and %d are the same: %v", i, k, got)
			}
		}
	}
}

// P11.5, P11.7: nil and empty lists are equal.
func TestSameOfEmptyLists(t *testing.T) {
	a := api.Language{Name: "n", Symbols: []api.Symbol{{Name: "S", Type: api.Ints}}, Rules: []api.Rule{constant(0, value.OfInts(nil))}}
	a.Rules[0].Const.Items = nil
	b := deepCopy(a)
	b.Inputs, b.Rules[0].Args, b.Rules[0].Const.Items = []int{}, []int{}, []api.Value{}
	if !grammar.Same(a, b) || !grammar.Same(b, a) {
		t.Error("they are not the same")
	}
	x, e := grammar.Fingerprint(a)
	y, f := grammar.Fingerprint(b)
	if x != y || e != api.OK || f != api.OK {
		t.Error(x, e, y, f)
	}
	if !grammar.Same(api.Language{}, api.Language{Inputs: []int{}, Symbols: []api.Symbol{}, Rules: []api.Rule{}}) {
		t.Error("languages without anything are not the same")
	}
}

// P11.6: the text of each language is written by hand.
func TestFingerprint(t *testing.T) {
	more := sums()
	more.Symbols = append(more.Symbols, api.Symbol{Name: "A", Type: api.Int})
	for _, x := range []struct {
		l    api.Language
		text string
	}{
		{sums(), "n\n2,\nS:2,\n0=in0\n0=add(0,0,)\n"},
		{more, "n\n2,\nS:2,A:2,\n0=in0\n0=add(0,0,)\n"},
		{api.Language{Name: "z", Symbols: []api.Symbol{{Name: "z-1", Type: api.Pattern}}}, "z\n\nz-1:8,\n"},
		{numbers("ABCDEFGHIJKLMNOP", apply(10, "add", 1, 15)), "n\n2,\nA:2,B:2,C:2,D:2,E:2,F:2,G:2,H:2,I:2,J:2,K:2,L:2,M:2,N:2,O:2,P:2,\n10=add(1,15,)\n"},
		{everything(), `Every-1
2,3,3,7,
a-bool:1,a-int:2,a-text:3,a-bits:4,a-ints:5,a-texts:6,a-table:7,a-pattern:8,
0=true
1=in0
1=-12
2=in1
2=in2
2="a\"b"
3=0x0f
4=[1, -2]
4=[]
5={"", "x"}
6=in3
6=<{"a", "b"}, {"c", "d"}>
7=r"[a-z]*"
0=less(1,1,)
2=slice(2,1,1,)
2=extract(2,7,1,)
5=row(6,1,)
`},
	} {
		h := fnv.New64a()
		h.Write([]byte(x.text))
		if got, e := grammar.Fingerprint(x.l); got != h.Sum64() || e != api.OK {
			t.Errorf("%q: %d, %d, not %d", x.text, got, e, h.Sum64())
		}
	}
}

// P11.6: the number for the example, computed step by step.
func TestFingerprintNumber(t *testing.T) {
	want := uint64(14695981039346656037)
	for _, c := range []byte("n\n2,\nS:2,\n0=in0\n0=add(0,0,)\n") {
		want ^= uint64(c)
		want *= 1099511628211
	}
	if got, e := grammar.Fingerprint(sums()); got != want || e != api.OK {
		t.Error(got, e, want)
	}
}

// P11.6: different valid languages have different fingerprints here, others the error of Check.
func TestFingerprintOfVariants(t *testing.T) {
	seen := map[uint64]int{}
	for i, l := range variants() {
		got, e := grammar.Fingerprint(l)
		if want := grammar.Check(l); e != want || e != api.OK && got != 0 {
			t.Errorf("variant %d: %d, %d, not %d", i, got, e, want)
		}
		if before, isKnown := seen[got]; isKnown && e == api.OK {
			t.Errorf("variants %d and %d have the fingerprint %d", before, i, got)
		}
		seen[got] = i
	}
}
