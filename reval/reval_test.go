package reval

import (
	"math"
	"reflect"
	"slices"
	"strings"
	"testing"

	"tapestrier/api"
	"tapestrier/dom"
	"tapestrier/sel"
	"tapestrier/text"
	"tapestrier/tok"
)

// read tells the selectors of the text.
func read(t *testing.T, s string) []api.Selector {
	t.Helper()
	l, ok := sel.Parse(tok.Tokens(text.Prepare([]byte(s))))
	if !ok {
		t.Fatalf("no selectors: %q", s)
	}
	return l
}

// readRules makes a rule of each text, which is a list of selectors; of an empty text one without any.
func readRules(t *testing.T, texts ...string) []api.Rule {
	t.Helper()
	var out []api.Rule
	for _, s := range texts {
		var r api.Rule
		if s != "" {
			r.Sels = read(t, s)
		}
		out = append(out, r)
	}
	return out
}

// one makes a selector of one part.
func one(c api.Compound) api.Selector {
	return api.Selector{Parts: []api.Part{{Compound: c}}}
}

// listed makes a selector of one part, that is a pseudo-class with a list.
func listed(kind int, l ...api.Selector) api.Selector {
	return one(api.Compound{Pseudos: []api.Pseudo{{Kind: kind, List: l}}})
}

// nested puts s into n lists of that kind, each in the next.
func nested(n, kind int, s api.Selector) api.Selector {
	for range n {
		s = listed(kind, s)
	}
	return s
}

// treeOf makes a tree of nodes that are one.
func treeOf(t *testing.T, l ...api.Node) *dom.Tree {
	t.Helper()
	x, err := dom.New(l)
	if err != api.OK {
		t.Fatalf("no tree: %d", err)
	}
	return x
}

func wantNeeds(t *testing.T, name any, s api.Selector, want bool) {
	t.Helper()
	if Needs(s) != want {
		t.Errorf("Needs of %v: %v", name, !want)
	}
}

func wantList(t *testing.T, got, want []api.Selector) {
	t.Helper()
	if len(got) != len(want) || len(got) > 0 && !reflect.DeepEqual(got, want) {
		t.Errorf("List: %+v, want %+v", got, want)
	}
}

func wantBits(t *testing.T, x *dom.Tree, e int, l []api.Selector, want ...bool) {
	t.Helper()
	if got := Bits(x, e, l); !slices.Equal(got, want) {
		t.Errorf("Bits of element %d: %v, want %v", e, got, want)
	}
}

func TestP1401Example(t *testing.T) {
	wantNeeds(t, "a > b", read(t, "a > b")[0], false)
}

func TestP1401Needs(t *testing.T) {
	for _, s := range []string{"*", "a", ".a", "#a", "a.b.c#d#e", "a b", "a > b", "a b > c d", "*.a > * #b", "a.b #c > d.e *"} {
		wantNeeds(t, s, read(t, s)[0], false)
	}
	for _, s := range []string{
		"[a]", "a[b]", "[a=b]", "[a~=b]", "[a|=b]", "[a^=b]", "[a$=b]", "[a*='']", "#a.b[c]",
		":root", ":first-child", ":last-child", ":only-child", ":empty", ":nth-child(2)", ":nth-child(odd)", ":nth-child(0)",
		":not(a)", ":is(a)", ":is(*)", ":not(:is(a, b))", "a:is(.b > #c)",
		"a + b", "a ~ b", "a + b > c", "a ~ b c d", "a > b + c", "a b ~ c", "a > b > c > d ~ e > f",
		"[a] b", "a [b] c", "a > b > [c]", ":root a b", "a :empty > b", "a b :is(c)", "a[b] + c:root",
	} {
		wantNeeds(t, s, read(t, s)[0], true)
	}
}

// TestP1401NeedsOfPart: of a part each thing alone makes the difference, whatever it holds, and wherever the part stands.
func TestP1401NeedsOfPart(t *testing.T) {
	names := api.Compound{Tag: "a", IDs: []string{"", "i"}, Classes: []string{"", "p"}}
	for _, r := range []struct {
		name string
		part api.Part
		want bool
	}{
		{"nothing", api.Part{}, false},
		{"empty lists", api.Part{Compound: api.Compound{IDs: []string{}, Classes: []string{}, Attrs: []api.Attr{}, Pseudos: []api.Pseudo{}}}, false},
		{"spare room alone", api.Part{Compound: api.Compound{Attrs: make([]api.Attr, 2)[:0], Pseudos: make([]api.Pseudo, 2)[:0]}}, false},
		{"names", api.Part{Compound: names}, false},
		{"names within", api.Part{Comb: api.CWithin, Compound: names}, false},
		{"a child of names", api.Part{Comb: api.CChild, Compound: names}, false},
		{"CNext", api.Part{Comb: api.CNext, Compound: names}, true},
		{"CAfter", api.Part{Comb: api.CAfter, Compound: names}, true},
		{"Comb 5", api.Part{Comb: 5}, false},
		{"Comb -3", api.Part{Comb: -3}, false},
		{"Comb 2^32 + 3", api.Part{Comb: 1<<32 + 3}, false},
		{"Comb 256 + 4", api.Part{Comb: 256 + 4}, false},
		{"the least Comb", api.Part{Comb: math.MinInt}, false},
		{"the greatest Comb", api.Part{Comb: math.MaxInt}, false},
		{"a zero attribute", api.Part{Compound: api.Compound{Attrs: []api.Attr{{}}}}, true},
		{"an attribute that can't be", api.Part{Compound: api.Compound{Attrs: []api.Attr{{Name: "a", Op: -1}}}}, true},
		{"a zero pseudo-class", api.Part{Compound: api.Compound{Pseudos: []api.Pseudo{{}}}}, true},
		{"a pseudo-class of another kind", api.Part{Compound: api.Compound{Pseudos: []api.Pseudo{{Kind: math.MinInt}}}}, true},
		{"an is of nothing", api.Part{Compound: api.Compound{Pseudos: []api.Pseudo{{Kind: api.SIs}}}}, true},
	} {
		for place := range 4 {
			s := api.Selector{Parts: []api.Part{{Compound: names}, {Comb: api.CWithin}, {Comb: api.CChild, Compound: names}}}
			s.Parts = slices.Insert(s.Parts, place, r.part)
			wantNeeds(t, r.name, s, r.want)
		}
		wantNeeds(t, r.name, api.Selector{Parts: []api.Part{r.part}}, r.want)
	}
}

func TestP1401NeedsOfNoParts(t *testing.T) {
	wantNeeds(t, "nil", api.Selector{}, false)
	wantNeeds(t, "an empty list", api.Selector{Parts: []api.Part{}}, false)
	wantNeeds(t, "spare room", api.Selector{Parts: []api.Part{{Comb: api.CNext}}[:0]}, false)
}

// TestP1401NeedsBeyondBounds: what no element may match is asked as everything else is.
func TestP1401NeedsBeyondBounds(t *testing.T) {
	long := api.Selector{Parts: make([]api.Part, 100_000)}
	wantNeeds(t, "very many parts", long, false)
	long.Parts[99_999].Comb = api.CAfter
	wantNeeds(t, "very many parts, and a CAfter", long, true)
	wantNeeds(t, "very deep", nested(100_000, api.SNot, one(api.Compound{})), true)
	wantNeeds(t, "endless", endless(), true)
}

func TestP1401List(t *testing.T) {
	l := readRules(t, "a, b:empty, a + c", "", "c, #d", "[m], c", "a ~ b, a:root b, a", "x > y, [m]")
	for i := range l {
		l[i].Sets = []api.Set{{Prop: i}}
	}
	want := read(t, "b:empty, a + c, [m], a ~ b, a:root b, [m]")
	wantList(t, List(l), want)
	slices.Reverse(l)
	wantList(t, List(l), read(t, "[m], a ~ b, a:root b, [m], b:empty, a + c"))
}

func TestP1401ListOfNone(t *testing.T) {
	for _, l := range [][]api.Rule{nil, {}, make([]api.Rule, 3), readRules(t, "a, b > c", "#d .e"), {{Sels: make([]api.Selector, 5)}}, {{Sets: []api.Set{{}}}}} {
		wantList(t, List(l), nil)
	}
}

// TestP1401ListEachTime: what stands there more than once is told as often.
func TestP1401ListEachTime(t *testing.T) {
	l := readRules(t, "[a], b, [a]", "[a]")
	l = append(l, l...)
	wantList(t, List(l), read(t, "[a], [a], [a], [a], [a], [a]"))
}

// odd makes a selector that has all that one may have, things that can't be, too.
func odd() api.Selector {
	c := api.Compound{
		Tag:     "A",
		IDs:     []string{"", "\xff"},
		Classes: []string{"p", "p", ""},
		Attrs:   []api.Attr{{}, {Name: "M", Op: -1, Text: "m"}, {Op: math.MaxInt}},
		Pseudos: []api.Pseudo{{}, {Kind: 99, A: math.MinInt, B: math.MaxInt, List: []api.Selector{{}, one(api.Compound{Tag: "in"})}}, {Kind: api.SNth, A: 2, B: 1}},
	}
	return api.Selector{Parts: []api.Part{{Comb: -1, Compound: c}, {}, {Comb: api.CNext, Compound: c}, {Comb: 77}}}
}

// TestP1401ListAsTheyStand: all that selectors have is told, whatever it is.
func TestP1401ListAsTheyStand(t *testing.T) {
	for _, s := range []api.Selector{
		odd(),
		listed(api.SIs, odd(), odd()),
		listed(api.SNot),
		nested(1, api.SIs, odd()),
		nested(8, api.SNot, odd()),
		nested(9, api.SNot, odd()),
		nested(100, api.SIs, odd()),
		nested(100, 0, odd()),
		{Parts: make([]api.Part, 51)},
		{Parts: make([]api.Part, 5_000)},
	} {
		s.Parts = append(s.Parts, api.Part{Comb: api.CAfter})
		wantList(t, List([]api.Rule{{Sels: []api.Selector{{}, s}}}), []api.Selector{s})
	}
}

func TestP1401Bits(t *testing.T) {
	x := treeOf(t,
		api.Node{Parent: -1, Tag: "A"},
		api.Node{Parent: 0, Tag: "a", ID: "i"},
		api.Node{Parent: 1, Tag: "b", Classes: []string{"p"}},
		api.Node{Parent: 0, Tag: "c", Attrs: []api.Pair{{Name: "M", Text: "1"}}},
	)
	l := read(t, "b:empty, a + c, [m], a > b, *, .p, :not(#i), a ~ c:last-child")
	wantBits(t, x, 0, l, false, false, false, false, true, false, true, false)
	wantBits(t, x, 1, l, false, false, false, false, true, false, false, false)
	wantBits(t, x, 2, l, true, false, false, true, true, true, true, false)
	wantBits(t, x, 3, l, false, true, true, false, true, false, true, true)
	slices.Reverse(l)
	wantBits(t, x, 2, l, false, true, true, true, true, false, false, true)
	wantBits(t, x, 2, append(l[:1:1], l[1], l[0], l[1]), false, true, false, true)
}

// TestP1401BitsOfNone: of no element nothing is true, yet there is a bit of each.
func TestP1401BitsOfNone(t *testing.T) {
	x := treeOf(t, api.Node{Parent: -1, Tag: "a"})
	l := read(t, "*, a, :root, :not(b)")
	wantBits(t, x, 0, l, true, true, true, true)
	for _, e := range []int{-1, 1, 2, math.MinInt, math.MaxInt, 1 << 32} {
		wantBits(t, x, e, l, false, false, false, false)
	}
	for _, none := range []*dom.Tree{nil, treeOf(t), new(dom.Tree)} {
		wantBits(t, none, 0, l, false, false, false, false)
		wantBits(t, none, -1, l, false, false, false, false)
		wantBits(t, none, 0, nil)
	}
	wantBits(t, x, 0, nil)
	wantBits(t, x, 0, []api.Selector{})
	wantBits(t, x, 7, nil)
}

// TestP1401BitsBeyondBounds: of those that no element may match the bit is false; the others' bits stay.
func TestP1401BitsBeyondBounds(t *testing.T) {
	l := []api.Node{{Parent: -1}}
	for k := range 60 {
		l = append(l, api.Node{Parent: k})
	}
	x := treeOf(t, l...)
	row := func(n int) api.Selector {
		s := api.Selector{Parts: make([]api.Part, n)}
		for k := range s.Parts[1:] {
			s.Parts[k+1].Comb = api.CChild
		}
		return s
	}
	any := one(api.Compound{})
	wantBits(t, x, 60, []api.Selector{
		any, row(50), row(51), any,
		nested(8, api.SIs, any), nested(9, api.SIs, any), nested(8, api.SNot, any), nested(9, api.SNot, any),
		listed(api.SNot, row(51)), listed(api.SNot, api.Selector{}), endless(), any, {},
		{Parts: []api.Part{{}, {Comb: 5}}}, listed(99, any), one(api.Compound{Attrs: []api.Attr{{}}}),
	}, true, true, false, true, true, false, true, false, false, true, false, true, false, false, false, false)
}

// TestP1401TooDeepStaysTooDeep: what is told of a selector matches just what it does itself.
func TestP1401TooDeepStaysTooDeep(t *testing.T) {
	x := treeOf(t, api.Node{Parent: -1})
	for n := range 12 {
		for _, kind := range []int{api.SNot, api.SIs} {
			l := []api.Selector{nested(n+1, kind, one(api.Compound{}))}
			wantBits(t, x, 0, List([]api.Rule{{Sels: l}}), Bits(x, 0, l)...)
		}
	}
}

// TestP1401NotForEver: very many rules, and selectors of which each is very long.
func TestP1401NotForEver(t *testing.T) {
	long := api.Selector{Parts: make([]api.Part, 1000)}
	long.Parts[999].Comb = api.CNext
	rule := api.Rule{Sels: []api.Selector{one(api.Compound{Tag: "a"}), long}}
	got := List(slices.Repeat([]api.Rule{rule}, 1000))
	if len(got) != 1000 || len(got[999].Parts) != 1000 {
		t.Fatalf("List: %d", len(got))
	}
	if b := Bits(treeOf(t, api.Node{Parent: -1}), 0, got); len(b) != 1000 || slices.Contains(b, true) {
		t.Errorf("Bits: %d", len(b))
	}
	names := readRules(t, strings.Repeat("a:is(b, c), ", 50)+"d")
	if got := List(slices.Repeat(names, 2000)); len(got) != 100_000 {
		t.Errorf("List: %d", len(got))
	}
}
