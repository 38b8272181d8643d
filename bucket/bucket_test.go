package bucket

import (
	"math"
	"reflect"
	"slices"
	"strconv"
	"strings"
	"testing"
	"unsafe"

	"tapestrier/api"
	"tapestrier/dom"
	"tapestrier/match"
	"tapestrier/sel"
	"tapestrier/text"
	"tapestrier/tok"
)

// read makes a rule of each text, which is a list of selectors.
func read(t *testing.T, texts ...string) []api.Rule {
	t.Helper()
	var out []api.Rule
	for _, s := range texts {
		l, ok := sel.Parse(tok.Tokens(text.Prepare([]byte(s))))
		if !ok {
			t.Fatalf("no selectors: %q", s)
		}
		out = append(out, api.Rule{Sels: l})
	}
	return out
}

// one makes a rule of one selector of one part.
func one(c api.Compound) api.Rule {
	return api.Rule{Sels: []api.Selector{{Parts: []api.Part{{Compound: c}}}}}
}

// classes makes a node with these classes.
func classes(l ...string) api.Node { return api.Node{Classes: l} }

func wantFor(t *testing.T, m *Map, n api.Node, want ...int) {
	t.Helper()
	if got := m.For(n); !slices.Equal(got, want) {
		t.Errorf("For(%+v): %v, want %v", n, got, want)
	}
}

func wantLen(t *testing.T, m *Map, want int) {
	t.Helper()
	if got := m.Len(); got != want {
		t.Errorf("Len: %d, want %d", got, want)
	}
}

func TestP1201Example(t *testing.T) {
	m := New(read(t, ".b"))
	wantFor(t, m, classes("b"), 0)
	wantLen(t, m, 1)
}

func TestP1201None(t *testing.T) {
	n := api.Node{Tag: "a", ID: "a", Classes: []string{"a", ""}}
	var zero Map
	for _, m := range []*Map{New(nil), New([]api.Rule{}), New(make([]api.Rule, 3)), New([]api.Rule{{Sets: []api.Set{{}}}}), &zero} {
		wantLen(t, m, 0)
		wantFor(t, m, n)
		wantFor(t, m, api.Node{})
	}
}

// TestP1201OneBucket: a name of each kind is looked for; only that of the bucket finds the selector.
func TestP1201OneBucket(t *testing.T) {
	tag, class, other, id := api.Node{Tag: "t"}, classes("c"), classes("d"), api.Node{ID: "i"}
	for _, r := range []struct {
		text                  string
		tag, class, other, id bool
	}{
		{"t.c#i", false, false, false, true},
		{"#i.c", false, false, false, true},
		{"t#i", false, false, false, true},
		{"#i#j", false, false, false, true},
		{"#j#i", false, false, false, false},
		{"t.c", false, true, false, false},
		{".c.d", false, true, false, false},
		{".d.c", false, false, true, false},
		{".c[t]:root", false, true, false, false},
		{"t", true, false, false, false},
		{"t[c]:first-child:not(.d, #i)", true, false, false, false},
		{"t:is(#i)", true, false, false, false},
		{"x", false, false, false, false},
		{"*.c", false, true, false, false},
		{"*", true, true, true, true},
		{"[t]", true, true, true, true},
		{":is(t, .c, #i)", true, true, true, true},
		{":not(#i)", true, true, true, true},
		{"#i .c t", true, false, false, false},
		{"#i > t .c", false, true, false, false},
		{"t + .c ~ #i", false, false, false, true},
		{"#i.c *", true, true, true, true},
		{"t .c > :empty", true, true, true, true},
		{"* t", true, false, false, false},
	} {
		m := New(read(t, r.text))
		wantLen(t, m, 1)
		for k, n := range []api.Node{tag, class, other, id} {
			if got := len(m.For(n)) == 1; got != []bool{r.tag, r.class, r.other, r.id}[k] {
				t.Errorf("%q: For(%+v): %v", r.text, n, m.For(n))
			}
		}
		if got := len(m.For(api.Node{})) == 1; got != (r.tag && r.class && r.id) {
			t.Errorf("%q: For of a node without names: %v", r.text, m.For(api.Node{}))
		}
	}
}

// TestP1201KindsApart: a tag, a class, an ID and an attribute of one name are four things.
func TestP1201KindsApart(t *testing.T) {
	m := New(read(t, "a", ".a", "#a", "[a]"))
	wantLen(t, m, 4)
	wantFor(t, m, api.Node{Tag: "a"}, 0, 3)
	wantFor(t, m, classes("a"), 1, 3)
	wantFor(t, m, api.Node{ID: "a"}, 2, 3)
	wantFor(t, m, api.Node{Attrs: []api.Pair{{Name: "a", Text: "a"}}}, 3)
	wantFor(t, m, api.Node{Tag: "a", ID: "a", Classes: []string{"a"}}, 0, 1, 2, 3)
	wantFor(t, m, api.Node{}, 3)
}

// TestP1201EmptyNames: an empty tag is none; an empty ID is one that no node has; an empty class is one like others.
func TestP1201EmptyNames(t *testing.T) {
	m := New([]api.Rule{
		one(api.Compound{IDs: []string{""}, Classes: []string{"c"}, Tag: "t"}),
		one(api.Compound{IDs: []string{"", "i"}}),
		one(api.Compound{Classes: []string{""}, Tag: "t"}),
		one(api.Compound{Classes: []string{"", "c"}}),
		one(api.Compound{}),
		one(api.Compound{IDs: []string{}, Classes: []string{}, Tag: "t"}),
		one(api.Compound{IDs: []string{"i", ""}}),
	})
	wantLen(t, m, 7)
	wantFor(t, m, api.Node{}, 4)
	wantFor(t, m, classes(""), 2, 3, 4)
	wantFor(t, m, classes("", "c", ""), 2, 3, 4)
	wantFor(t, m, classes("c"), 4)
	wantFor(t, m, api.Node{ID: "i"}, 4, 6)
	wantFor(t, m, api.Node{Tag: "t"}, 4, 5)
	wantFor(t, m, api.Node{Tag: "t", ID: "i", Classes: []string{"c", ""}}, 2, 3, 4, 5, 6)
}

// TestP1201NamesAsTheyStand: names are held against each other byte by byte, on both sides as they were handed in.
func TestP1201NamesAsTheyStand(t *testing.T) {
	list := []string{"a", "A", "a ", " a", "aa", "\x00", "\x00a", "\xff", "\xfe", "\ufffd", "ä", "a\u0308", strings.Repeat("a", 1<<16), strings.Repeat("a", 1<<16+1)}
	var l []api.Rule
	for _, s := range list {
		l = append(l, one(api.Compound{Tag: s}), one(api.Compound{Classes: []string{s}}), one(api.Compound{IDs: []string{s}}))
	}
	m := New(l)
	wantLen(t, m, len(l))
	for k, s := range list {
		wantFor(t, m, api.Node{Tag: s}, 3*k)
		wantFor(t, m, classes(s), 3*k+1)
		wantFor(t, m, api.Node{ID: s}, 3*k+2)
		wantFor(t, m, api.Node{Tag: s + "x", ID: "x" + s, Classes: []string{s + "x"}})
	}
}

func TestP1201WithoutParts(t *testing.T) {
	none := api.Selector{}
	l := read(t, "a", "*", "a")
	l[0].Sels = append([]api.Selector{none, {Parts: []api.Part{}}}, l[0].Sels...)
	l[1].Sels = []api.Selector{none}
	l[2].Sels = append(l[2].Sels, none)
	m := New(l)
	wantLen(t, m, 2)
	wantFor(t, m, api.Node{Tag: "a"}, 0, 2)
	wantFor(t, m, api.Node{})
}

// TestP1201EachOnce: selectors are counted each, rules are told once, however many ways lead to them.
func TestP1201EachOnce(t *testing.T) {
	m := New(read(t, "a, a, a", ".p, a, .p, a, #i, *, .q", "b, .q.p, .p, *, *", ".p, .p"))
	wantLen(t, m, 3+7+5+2)
	wantFor(t, m, api.Node{Tag: "a"}, 0, 1, 2)
	wantFor(t, m, api.Node{Tag: "a", ID: "i", Classes: []string{"q", "p", "q", "q", "p"}}, 0, 1, 2, 3)
	wantFor(t, m, classes("p", "p"), 1, 2, 3)
	wantFor(t, m, classes("q"), 1, 2)
	wantFor(t, m, api.Node{}, 1, 2)
}

// TestP1201Rising: rules come in their own order, not in that of the node's names or of the buckets.
func TestP1201Rising(t *testing.T) {
	order := []string{"#i", "*", ".p", "a", ".q", "*", "#i", ".q", "a", ".p"}
	for turn := range order {
		l := slices.Concat(order[turn:], order[:turn])
		m := New(read(t, l...))
		for _, list := range [][]string{{"p", "q"}, {"q", "p"}, {"q", "x", "p", "q"}} {
			wantFor(t, m, api.Node{Tag: "a", ID: "i", Classes: list}, 0, 1, 2, 3, 4, 5, 6, 7, 8, 9)
		}
	}
}

// TestP1201NotLookedAt: what the chapter does not name makes no difference, be it sound or not.
func TestP1201NotLookedAt(t *testing.T) {
	l := one(api.Compound{Classes: []string{"p"}, Attrs: []api.Attr{{Op: 99}}, Pseudos: []api.Pseudo{{Kind: -1, A: math.MinInt, B: math.MaxInt}}})
	l.Sels[0].Parts[0].Comb = 99
	l.Sets = []api.Set{{Prop: math.MinInt}}
	long := api.Rule{Sels: []api.Selector{{Parts: make([]api.Part, 1000)}}}
	within := []api.Selector{{Parts: []api.Part{{Compound: api.Compound{Tag: "a", Pseudos: make([]api.Pseudo, 1)}}}}}
	within[0].Parts[0].Compound.Pseudos[0] = api.Pseudo{Kind: api.SNot, List: within}
	m := New([]api.Rule{l, long, {Sels: within}})
	wantLen(t, m, 3)
	wantFor(t, m, api.Node{Parent: math.MinInt, Classes: []string{"p"}}, 0, 1)
	wantFor(t, m, api.Node{Parent: math.MaxInt, Tag: "a", Attrs: []api.Pair{{}, {}}}, 1, 2)
}

// TestP1201NotForEver: very many rules of one name, which a node has very often.
func TestP1201NotForEver(t *testing.T) {
	const n = 200_000
	l := make([]api.Rule, n)
	rule := read(t, ".p, .q, a, #i, *")[0]
	var often []string
	for k := range l {
		l[k] = rule
		often = append(often, "p", "q", strconv.Itoa(k))
	}
	m := New(l)
	wantLen(t, m, 5*n)
	got := m.For(api.Node{Tag: "a", ID: "i", Classes: often})
	if len(got) != n || !slices.IsSorted(got) || got[0] != 0 || got[n-1] != n-1 {
		t.Errorf("For: %d of %d rules", len(got), n)
	}
}

// TestP1202Tree asks for the elements of a tree: its tags are small, as those of selectors are.
func TestP1202Tree(t *testing.T) {
	x, err := dom.New([]api.Node{
		{Parent: -1, Tag: "MAIN", ID: "Top"},
		{Parent: 0, Tag: "Div", Classes: []string{"p", "Q"}, Attrs: []api.Pair{{Name: "HREF"}}},
		{Parent: 1, ID: "x", Classes: []string{"q"}},
	})
	if err != api.OK {
		t.Fatal(err)
	}
	l := read(t, "MAIN", "#Top > DIV.p", ".Q", "div :not(.p)", "[href]", "#top, #x.q", ":root, .q", "main *", ".p.q")
	m := New(l)
	for e, want := range []struct{ told, matching []int }{
		{[]int{0, 3, 4, 6, 7}, []int{0, 6}},
		{[]int{1, 2, 3, 4, 6, 7, 8}, []int{1, 2, 4, 7}},
		{[]int{3, 4, 5, 6, 7}, []int{3, 5, 6, 7}},
	} {
		wantFor(t, m, x.Node(e), want.told...)
		for i, r := range l {
			if got := match.Any(x, e, r.Sels); got != slices.Contains(want.matching, i) || got && !slices.Contains(want.told, i) {
				t.Errorf("rule %d of element %d: %v", i, e, got)
			}
		}
	}
}

// rich makes rules that have all that a rule may have, with spare room behind each list.
func rich() []api.Rule {
	c := api.Compound{
		Tag:     "a",
		IDs:     []string{"i", "spare"}[:1],
		Classes: []string{"p", "q", "spare"}[:2],
		Attrs:   []api.Attr{{Name: "m"}, {Name: "spare"}}[:1],
		Pseudos: []api.Pseudo{{Kind: api.SNth, A: 1}, {Kind: 99}}[:1],
	}
	byClass, byTag := c, c
	byClass.IDs = nil
	byTag.IDs, byTag.Classes = c.IDs[:0], c.Classes[:0]
	sels := []api.Selector{
		{Parts: []api.Part{{Compound: c}, {Comb: api.CChild, Compound: byClass}, {Comb: 9}}[:2]},
		{Parts: []api.Part{{Compound: byTag}}},
		{Parts: []api.Part{{}}},
	}
	return []api.Rule{
		{Sels: sels[:1], Sets: []api.Set{{Prop: 1}, {Prop: 2}}[:1]},
		{Sels: []api.Selector{{Parts: []api.Part{{Compound: c}}}}},
		{Sels: sels[1:2]},
		{Sels: sels},
	}[:3]
}

// rooms tells the rules with all lists up to the end of their room.
func rooms(l []api.Rule) []api.Rule {
	l = slices.Clone(l[:cap(l)])
	for i := range l {
		r := &l[i]
		r.Sels, r.Sets = slices.Clone(r.Sels[:cap(r.Sels)]), r.Sets[:cap(r.Sets)]
		for k := range r.Sels {
			parts := slices.Clone(r.Sels[k].Parts[:cap(r.Sels[k].Parts)])
			r.Sels[k].Parts = parts
			for j := range parts {
				c := &parts[j].Compound
				c.IDs, c.Classes, c.Attrs, c.Pseudos = c.IDs[:cap(c.IDs)], c.Classes[:cap(c.Classes)], c.Attrs[:cap(c.Attrs)], c.Pseudos[:cap(c.Pseudos)]
			}
		}
	}
	return l
}

// wantRich asks whether m is a map of rich.
func wantRich(t *testing.T, m *Map) {
	t.Helper()
	wantLen(t, m, 3)
	wantFor(t, m, classes("q", "p"), 0)
	wantFor(t, m, api.Node{ID: "i"}, 1)
	wantFor(t, m, api.Node{Tag: "a"}, 2)
	wantFor(t, m, api.Node{Tag: "a", ID: "i", Classes: []string{"p"}}, 0, 1, 2)
	wantFor(t, m, api.Node{Tag: "spoilt", ID: "spoilt", Classes: []string{"spoilt", "spare"}})
}

func TestP1202HandedInStays(t *testing.T) {
	l := rich()
	wantRich(t, New(l))
	if !reflect.DeepEqual(rooms(l), rooms(rich())) {
		t.Errorf("the rules behind New: %+v", rooms(l))
	}
	m := New(l)
	node := func() api.Node {
		return api.Node{Parent: 7, Tag: "a", ID: "i", Classes: []string{"z", "p", "a", "p", "spare", "a"}[:4], Attrs: []api.Pair{{Name: "m"}, {Name: "spare"}}[:1]}
	}
	n := node()
	wantFor(t, m, n, 0, 1, 2)
	want := node()
	if !slices.Equal(n.Classes[:6], want.Classes[:6]) || !slices.Equal(n.Attrs[:2], want.Attrs[:2]) {
		t.Errorf("the node behind For: %v, %v", n.Classes[:6], n.Attrs[:2])
	}
}

// TestP1202KnowsAsItWas: what is written into the rules behind New changes nothing in the map.
func TestP1202KnowsAsItWas(t *testing.T) {
	l := rich()
	m := New(l)
	for i := range l {
		for _, s := range l[i].Sels {
			for k := range s.Parts {
				c := &s.Parts[k].Compound
				for _, list := range [][]string{c.IDs, c.Classes} {
					for j := range list[:cap(list)] {
						list[:cap(list)][j] = "spoilt"
					}
				}
				*c = api.Compound{Tag: "spoilt"}
			}
		}
		l[i] = api.Rule{}
	}
	wantRich(t, m)
}

// TestP1202NoTextIsKept: the memory of names that were handed in may be turned into something else, be it the first of that name or not.
func TestP1202NoTextIsKept(t *testing.T) {
	var memory [][]byte
	name := func() string {
		b := []byte("name")
		memory = append(memory, b)
		return unsafe.String(&b[0], len(b))
	}
	var l []api.Rule
	for range 3 {
		l = append(l, one(api.Compound{Tag: name()}), one(api.Compound{Classes: []string{name()}}), one(api.Compound{IDs: []string{name()}}))
	}
	m := New(l)
	wantFor(t, m, api.Node{Tag: name(), ID: name(), Classes: []string{name()}}, 0, 1, 2, 3, 4, 5, 6, 7, 8)
	for _, b := range memory {
		if string(b) != "name" {
			t.Errorf("a name became %q", b)
		}
		copy(b, "else")
	}
	wantFor(t, m, api.Node{Tag: "name"}, 0, 3, 6)
	wantFor(t, m, classes("name"), 1, 4, 7)
	wantFor(t, m, api.Node{ID: "name"}, 2, 5, 8)
	wantFor(t, m, api.Node{Tag: "else", ID: "else", Classes: []string{"else"}})
}

func TestP1202AnswersAreNew(t *testing.T) {
	m := New(read(t, "a", "*", ".p", "a", "#i", ".p, *"))
	for _, n := range []api.Node{{}, {Tag: "a"}, {ID: "i"}, classes("p"), {Tag: "a", ID: "i", Classes: []string{"p", "p"}}} {
		got, again := m.For(n), m.For(n)
		want := slices.Clone(got)
		got = got[:cap(got)]
		for k := range got {
			got[k] = -7
		}
		if !slices.Equal(again, want) {
			t.Errorf("two answers of For(%+v) share a list", n)
		}
		wantFor(t, m, n, want...)
	}
	wantFor(t, m, api.Node{Tag: "a", ID: "i", Classes: []string{"p"}}, 0, 1, 2, 3, 4, 5)
}

func TestP1202TwoMaps(t *testing.T) {
	first := New(read(t, "a", ".p"))
	second := New(read(t, ".p", "a", "a"))
	third := New(nil)
	wantFor(t, first, api.Node{Tag: "a"}, 0)
	wantFor(t, second, api.Node{Tag: "a"}, 1, 2)
	wantFor(t, first, classes("p"), 1)
	wantFor(t, second, classes("p"), 0)
	wantFor(t, third, api.Node{Tag: "a", Classes: []string{"p"}})
	wantLen(t, first, 2)
	wantLen(t, second, 3)
	wantLen(t, third, 0)
}

// TestP1202SameTold: the answers hang on no map's order, and asking changes none of them.
func TestP1202SameTold(t *testing.T) {
	var texts, often []string
	for k := range 500 {
		texts = append(texts, ".c"+strconv.Itoa(k*7919%101))
		often = append(often, "c"+strconv.Itoa(k%150))
	}
	l := read(t, texts...)
	first := New(l).For(classes(often...))
	for range 50 {
		m := New(l)
		wantFor(t, m, classes(often...), first...)
		wantFor(t, m, classes(often[:150]...), first...)
		wantLen(t, m, 500)
	}
	if len(first) != 500 {
		t.Errorf("%d rules", len(first))
	}
}

// TestLists tries maps of lists of other kinds of keys and values.
func TestLists(t *testing.T) {
	l := lists[[2]int, string]{}
	for _, s := range []string{"b", "b", "a", "b", "", ""} {
		l.add([2]int{1, 2}, s)
	}
	l.add([2]int{2, 1}, "")
	if got := l[[2]int{1, 2}]; !slices.Equal(got, []string{"b", "a", "b", ""}) {
		t.Errorf("of one key: %q", got)
	}
	if got := l[[2]int{2, 1}]; !slices.Equal(got, []string{""}) {
		t.Errorf("of the other key: %q", got)
	}
	if got := l[[2]int{}]; got != nil || len(l) != 2 {
		t.Errorf("of no key: %q, %d keys", got, len(l))
	}
}
