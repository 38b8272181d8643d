package weigh

import (
	"math"
	"reflect"
	"slices"
	"strings"
	"testing"

	"tapestrier/api"
	"tapestrier/dom"
	"tapestrier/sel"
	"tapestrier/text"
	"tapestrier/tok"
)

// The weights of one of each kind.
const (
	anID    = 65536
	aClass  = 256
	aTag    = 1
	allFull = 255 * (anID + aClass + aTag)
)

// treeOf makes a tree of nodes that are one.
func treeOf(t *testing.T, l ...api.Node) *dom.Tree {
	t.Helper()
	x, err := dom.New(l)
	if err != api.OK {
		t.Fatalf("no tree: %d", err)
	}
	return x
}

// read tells the selectors of a text.
func read(t *testing.T, s string) []api.Selector {
	t.Helper()
	l, ok := sel.Parse(tok.Tokens(text.Prepare([]byte(s))))
	if !ok {
		t.Fatalf("no selectors: %q", s)
	}
	return l
}

// one makes a selector of one part.
func one(c api.Compound) api.Selector {
	return api.Selector{Parts: []api.Part{{Compound: c}}}
}

// listed makes a selector of one part, that is a pseudo-class with this list.
func listed(kind int, l ...api.Selector) api.Selector {
	return one(api.Compound{Pseudos: []api.Pseudo{{Kind: kind, List: l}}})
}

// nested puts s into n lists of that kind, each in the next.
func nested(n, kind int, s api.Selector) api.Selector {
	for range n {
		s = listed(kind, s)
	}
	return s
}

// many makes a selector with so many IDs, classes and tags.
func many(ids, classes, tags int) api.Selector {
	s := one(api.Compound{IDs: make([]string, ids), Classes: make([]string, classes)})
	for range tags {
		s.Parts = append(s.Parts, api.Part{Comb: api.CWithin, Compound: api.Compound{Tag: "a"}})
	}
	return s
}

func wantOf(t *testing.T, name string, s api.Selector, want int) {
	t.Helper()
	if got := Of(s); got != want {
		t.Errorf("%s: %d, want %d", name, got, want)
	}
}

func TestP1101Example(t *testing.T) {
	wantOf(t, "a.b#c", read(t, "a.b#c")[0], 65536+256+1)
}

func TestP1101Texts(t *testing.T) {
	for s, want := range map[string]int{
		"*":                                 0,
		"a":                                 aTag,
		"*.a":                               aClass,
		"a > b + c ~ d e":                   5 * aTag,
		"#a#a":                              2 * anID,
		".a .a":                             2 * aClass,
		"[a][a=b][a~=b][a|=b]":              4 * aClass,
		":root:first-child:last-child":      3 * aClass,
		":only-child:empty:nth-child(odd)":  3 * aClass,
		"a:not(b)":                          2 * aTag,
		":not(#a, .b.b.b, c)":               anID,
		":is(c, .b, .b.b d, .b.b)":          2*aClass + aTag,
		":is(a):is(.b):not(#c)":             anID + aClass + aTag,
		":not(:not(:not(#a > b)))":          anID + aTag,
		":is(a, :not(.b, :is(#c d, .e.e)))": anID + aTag,
		"#a:is(#b, .c) .d:not(.e) f":        2*anID + 2*aClass + aTag,
		":is(*, * > *)":                     0,
	} {
		wantOf(t, s, read(t, s)[0], want)
	}
}

// TestP1101Counted: names, operators, texts and Combs are not looked at, but for a Tag that is empty.
func TestP1101Counted(t *testing.T) {
	for _, r := range []struct {
		name string
		c    api.Compound
		want int
	}{
		{"nothing", api.Compound{}, 0},
		{"a tag of white", api.Compound{Tag: " "}, aTag},
		{"a tag of *", api.Compound{Tag: "*"}, aTag},
		{"a tag of no code point", api.Compound{Tag: "\xff"}, aTag},
		{"empty IDs", api.Compound{IDs: []string{"", ""}}, 2 * anID},
		{"the same ID", api.Compound{IDs: []string{"a", "a", "a"}}, 3 * anID},
		{"empty classes", api.Compound{Classes: []string{"", ""}}, 2 * aClass},
		{"zero attributes", api.Compound{Attrs: make([]api.Attr, 3)}, 3 * aClass},
		{"an operator that is none", api.Compound{Attrs: []api.Attr{{Name: "a", Op: -7}}}, aClass},
		{"all", api.Compound{Tag: "a", IDs: []string{"b"}, Classes: []string{"c"}, Attrs: []api.Attr{{Name: "d"}}, Pseudos: []api.Pseudo{{Kind: api.SRoot}}}, anID + 3*aClass + aTag},
	} {
		for _, comb := range []int{api.CNone, api.CWithin, api.CAfter, 5, -1, math.MinInt} {
			wantOf(t, r.name, api.Selector{Parts: []api.Part{{Comb: comb, Compound: r.c}}}, r.want)
			wantOf(t, r.name+", three times", api.Selector{Parts: []api.Part{{Comb: comb, Compound: r.c}, {Comb: comb, Compound: r.c}, {Comb: comb, Compound: r.c}}}, 3*r.want)
		}
	}
	wantOf(t, "no parts", api.Selector{}, 0)
	wantOf(t, "empty parts", api.Selector{Parts: []api.Part{}}, 0)
}

// TestP1101Kinds: each kind but not and is weighs the same, those that there are not too, and whatever else it has.
func TestP1101Kinds(t *testing.T) {
	heavy := many(3, 4, 5)
	for _, kind := range []int{api.SRoot, api.SFirst, api.SLast, api.SOnly, api.SEmpty, api.SNth, 0, 9, 77, -1, -7, -8, 1<<32 + api.SNot, math.MaxInt, math.MinInt} {
		wantOf(t, "a kind", listed(kind), aClass)
		wantOf(t, "a kind with a list", listed(kind, heavy), aClass)
		wantOf(t, "a kind with numbers", one(api.Compound{Pseudos: []api.Pseudo{{Kind: kind, A: math.MaxInt, B: math.MinInt}}}), aClass)
		wantOf(t, "a kind in a list", listed(api.SNot, listed(kind, heavy)), aClass)
	}
	for _, kind := range []int{api.SNot, api.SIs} {
		wantOf(t, "no list", listed(kind), 0)
		wantOf(t, "an empty list", one(api.Compound{Pseudos: []api.Pseudo{{Kind: kind, A: 3, B: 4, List: []api.Selector{}}}}), 0)
		wantOf(t, "a list of no parts", listed(kind, api.Selector{}, api.Selector{}), 0)
		wantOf(t, "a list", listed(kind, heavy), Of(heavy))
		wantOf(t, "a list with nothing behind", listed(kind, heavy, api.Selector{}), Of(heavy))
	}
}

// TestP1101Greatest: the greatest one is chosen as a whole, wherever it stands; sums of others do not go into it.
func TestP1101Greatest(t *testing.T) {
	l := []api.Selector{many(0, 0, 255), many(0, 1, 0), many(0, 255, 255), many(1, 0, 0), many(1, 0, 7), many(1, 3, 0), many(2, 0, 0)}
	for n := 1; n <= len(l); n++ {
		want := Of(l[n-1])
		for turn := range n {
			turned := append(slices.Clone(l[turn:n]), l[:turn]...)
			for _, kind := range []int{api.SNot, api.SIs} {
				wantOf(t, "the greatest", listed(kind, turned...), want)
				wantOf(t, "the greatest, in another list", listed(api.SIs, many(0, 0, 1), listed(kind, turned...), many(0, 0, 2)), max(want, 2))
			}
		}
	}
}

func TestP1101Full(t *testing.T) {
	for _, n := range []int{0, 1, 254, 255, 256, 257, 300, 510, 511, 512, 1000, 65535, 65536, 65537, 70_000} {
		held := min(n, 255)
		wantOf(t, "IDs", many(n, 0, 0), held*anID)
		wantOf(t, "classes", many(0, n, 0), held*aClass)
		wantOf(t, "tags", many(0, 0, n), held*aTag)
		wantOf(t, "all", many(n, n, n), held*(anID+aClass+aTag))
		wantOf(t, "attributes", one(api.Compound{Attrs: make([]api.Attr, n)}), held*aClass)
		wantOf(t, "pseudo-classes", one(api.Compound{Pseudos: make([]api.Pseudo, n)}), held*aClass)
		wantOf(t, "a list", listed(api.SIs, many(n, n, n)), held*(anID+aClass+aTag))
		if n < 2000 {
			split := listed(api.SIs, many(n, n, n))
			split.Parts = append(split.Parts, split.Parts[0], many(n, n, n).Parts[0])
			wantOf(t, "two lists and a part", split, min(3*n, 255)*(anID+aClass)+min(2*n, 255)*aTag)
		}
	}
}

// TestP1101FullTogether: classes, attributes, pseudo-classes and what is in lists share one sum.
func TestP1101FullTogether(t *testing.T) {
	for n := 60; n < 70; n++ {
		c := api.Compound{Classes: make([]string, n), Attrs: make([]api.Attr, n), Pseudos: make([]api.Pseudo, n)}
		c.Pseudos = append(c.Pseudos, api.Pseudo{Kind: api.SNot, List: []api.Selector{many(0, n, 0)}})
		wantOf(t, "four times as many", one(c), min(4*n, 255)*aClass)
	}
	for ahead := range 300 {
		s := many(ahead, ahead, ahead)
		s.Parts = append(s.Parts, listed(api.SIs, many(100, 100, 100)).Parts...)
		wantOf(t, "a list behind", s, min(ahead+100, 255)*(anID+aClass+aTag))
	}
}

// TestP1101FullGreatest: the greatest one is chosen by weights that are held already.
func TestP1101FullGreatest(t *testing.T) {
	wantOf(t, "more IDs", listed(api.SIs, many(300, 0, 0), many(255, 1, 0)), 255*anID+aClass)
	wantOf(t, "more classes", listed(api.SIs, many(0, 300, 0), many(0, 255, 1)), 255*aClass+aTag)
	wantOf(t, "classes are no ID", listed(api.SNot, many(0, 300, 300), many(1, 0, 0)), anID)
	wantOf(t, "tags are no class", listed(api.SNot, many(0, 0, 300), many(0, 1, 0)), aClass)
	wantOf(t, "all full", listed(api.SIs, many(256, 256, 256), many(255, 255, 255)), allFull)
}

func TestP1101Deep(t *testing.T) {
	for n := range 30 {
		for _, kind := range []int{api.SNot, api.SIs} {
			want := 0
			if n <= 8 {
				want = anID + 2*aClass + 3*aTag
			}
			wantOf(t, "in so many lists", nested(n, kind, many(1, 2, 3)), want)
		}
		// Each list has a tag beside the next one.
		s := read(t, "b")[0]
		for range n {
			s = one(api.Compound{Tag: "c", Pseudos: []api.Pseudo{{Kind: api.SIs, List: []api.Selector{s}}}})
		}
		wantOf(t, "a tag in each list", s, min(n, 8)+1)
	}
}

// TestP1101DeepBeside: only what is too deep weighs nothing; what is beside it does.
func TestP1101DeepBeside(t *testing.T) {
	id, class := read(t, "#a")[0], read(t, ".a")[0]
	wantOf(t, "beside a list that is too deep", nested(8, api.SNot, one(api.Compound{Tag: "a", Pseudos: []api.Pseudo{{Kind: api.SNot, List: []api.Selector{id}}, {Kind: api.SRoot}}})), aClass+aTag)
	wantOf(t, "another of the list", nested(7, api.SIs, listed(api.SIs, listed(api.SIs, id), class)), aClass)
	wantOf(t, "another of the outermost list", listed(api.SIs, nested(8, api.SIs, id), class), aClass)
	wantOf(t, "a list ahead and one behind", api.Selector{Parts: slices.Concat(nested(8, api.SIs, id).Parts, nested(9, api.SIs, id).Parts, nested(8, api.SNot, id).Parts)}, 2*anID)
	wantOf(t, "many lists side by side", one(api.Compound{Pseudos: slices.Repeat([]api.Pseudo{{Kind: api.SIs, List: []api.Selector{class}}}, 20)}), 20*aClass)
}

// TestP1101ListsInThemselves: they weigh what is within the bound.
func TestP1101ListsInThemselves(t *testing.T) {
	for _, kind := range []int{api.SNot, api.SIs} {
		l := make([]api.Selector, 3)
		for k := range l {
			l[k] = one(api.Compound{IDs: make([]string, k), Tag: "a", Pseudos: []api.Pseudo{{Kind: kind, List: l}}})
		}
		for k, s := range l {
			wantOf(t, "a list in itself", s, (k+2*8)*anID+9*aTag)
		}
		if n, ok := Best(treeOf(t, api.Node{Parent: -1, Tag: "a"}), 0, l); n != 0 || ok {
			t.Errorf("the best one of lists in themselves: %d, %v", n, ok)
		}
	}
}

func TestP1101Best(t *testing.T) {
	x := treeOf(t, api.Node{Parent: -1, Tag: "a", ID: "x"}, api.Node{Parent: 0, Tag: "b", Classes: []string{"p"}}, api.Node{Parent: 1, Tag: "b"})
	for _, r := range []struct {
		e    int
		l    string
		want int
		ok   bool
	}{
		{0, "a", aTag, true},
		{0, "*", 0, true},
		{0, "b, .p, b b", 0, false},
		{0, "#x, a, *", anID, true},
		{0, "*, a, #x", anID, true},
		{0, "a, #x, *", anID, true},
		{0, "#y, a, .p", aTag, true},
		{1, "a, #x, a > b, .p, b:not(#x#x)", 2*anID + aTag, true},
		{1, "a > b, .p.p, #x > .p, .p", anID + aClass, true},
		{1, "a b b", 0, false},
		{2, "a b b, .p > b, b, #x.q b", aClass + aTag, true},
		{2, "#y, :is(b, #y)", anID, true},
		{2, "#y, *, #z", 0, true},
		{-1, "*", 0, false},
		{3, "*", 0, false},
		{math.MaxInt, "*, a", 0, false},
		{math.MinInt, "*, a", 0, false},
	} {
		if n, ok := Best(x, r.e, read(t, r.l)); n != r.want || ok != r.ok {
			t.Errorf("%q of %d: %d, %v, want %d, %v", r.l, r.e, n, ok, r.want, r.ok)
		}
	}
}

func TestP1101BestOfNothing(t *testing.T) {
	x, empty := treeOf(t, api.Node{Parent: -1, Tag: "a"}), treeOf(t)
	all := read(t, "*, a")
	for _, r := range []struct {
		name string
		t    *dom.Tree
		l    []api.Selector
	}{
		{"no selectors", x, nil},
		{"an empty list", x, []api.Selector{}},
		{"a selector without parts", x, make([]api.Selector, 3)},
		{"a nil tree", nil, all},
		{"an empty tree", empty, all},
	} {
		if n, ok := Best(r.t, 0, r.l); n != 0 || ok {
			t.Errorf("%s: %d, %v", r.name, n, ok)
		}
	}
}

// TestP1101BestInBounds: what matches nothing since it is too long or too deep is not among the best, though it weighs.
func TestP1101BestInBounds(t *testing.T) {
	var nodes []api.Node
	for k := range 60 {
		nodes = append(nodes, api.Node{Parent: k - 1, Tag: "a"})
	}
	x := treeOf(t, nodes...)
	for n := 1; n < 60; n++ {
		s := read(t, strings.Repeat("a ", n))[0]
		want, ok := n, n <= 50
		if !ok {
			want = 0
		}
		if got, found := Best(x, 59, []api.Selector{s}); got != want || found != ok || Of(s) != n {
			t.Errorf("%d parts: %d, %v", n, got, found)
		}
		if got, found := Best(x, 59, []api.Selector{s, many(0, 0, 3)}); got != max(want, 3) || !found {
			t.Errorf("%d parts, and three: %d, %v", n, got, found)
		}
	}
	for n := 7; n < 11; n++ {
		s := one(api.Compound{Tag: "a", Pseudos: nested(n, api.SIs, read(t, "a")[0]).Parts[0].Compound.Pseudos})
		got, found := Best(x, 0, []api.Selector{s})
		if n <= 8 && (got != 2 || !found) || n > 8 && (got != 0 || found) {
			t.Errorf("%d lists in each other: %d, %v", n, got, found)
		}
	}
}

// full makes a selector that has all that a selector may have, with spare room behind each list.
func full() api.Selector {
	inner := []api.Selector{many(0, 0, 9), many(0, 1, 0), many(9, 9, 9)}[:2]
	c := api.Compound{
		Tag:     "a",
		IDs:     []string{"x", "spare"}[:1],
		Classes: []string{"p", "q", "spare"}[:2],
		Attrs:   []api.Attr{{Name: "m"}, {Name: "spare"}}[:1],
		Pseudos: []api.Pseudo{{Kind: api.SNot, List: inner}, {Kind: api.SNth, A: 1}, {Kind: 99}}[:2],
	}
	return api.Selector{Parts: []api.Part{{Compound: c}, {Comb: api.CChild, Compound: c}, {Comb: 9}}[:2]}
}

// rooms tells the selector with all lists up to the end of their room.
func rooms(s api.Selector) api.Selector {
	s.Parts = slices.Clone(s.Parts[:cap(s.Parts)])
	for k := range s.Parts[:2] {
		c := &s.Parts[k].Compound
		c.IDs, c.Classes, c.Attrs = c.IDs[:cap(c.IDs)], c.Classes[:cap(c.Classes)], c.Attrs[:cap(c.Attrs)]
		c.Pseudos = slices.Clone(c.Pseudos[:cap(c.Pseudos)])
		c.Pseudos[0].List = c.Pseudos[0].List[:cap(c.Pseudos[0].List)]
	}
	return s
}

func TestP1102HandedInStays(t *testing.T) {
	node := api.Node{Parent: -1, Tag: "a", ID: "x", Classes: []string{"p", "q"}, Attrs: []api.Pair{{Name: "m"}}}
	below := node
	below.Parent = 0
	x, untouched := treeOf(t, node, below), treeOf(t, node, below)
	s := full()
	l := []api.Selector{one(api.Compound{Tag: "a"}), s, many(9, 9, 9)}[:2]
	const want = 2*anID + 10*aClass + 2*aTag
	for range 3 {
		wantOf(t, "all that there is", s, want)
		for e, best := range []int{aTag, want} {
			if n, ok := Best(x, e, l); n != best || !ok {
				t.Errorf("the best one of %d: %d, %v", e, n, ok)
			}
		}
	}
	if !reflect.DeepEqual(rooms(s), rooms(full())) || !reflect.DeepEqual(l[:3], []api.Selector{one(api.Compound{Tag: "a"}), full(), many(9, 9, 9)}) {
		t.Errorf("what was handed in: %+v", rooms(s))
	}
	if !reflect.DeepEqual(x, untouched) {
		t.Error("the tree has changed")
	}
}

// TestP1102NothingIsKept: what is written into a selector later counts at the next call.
func TestP1102NothingIsKept(t *testing.T) {
	x := treeOf(t, api.Node{Parent: -1, Tag: "a"})
	s := listed(api.SIs, read(t, "a, #b")...)
	l := []api.Selector{s}
	for k, want := range []int{anID, aClass, aTag, 0} {
		wantOf(t, "a selector that is written into", s, want)
		if n, ok := Best(x, 0, l); n != want || !ok {
			t.Errorf("the best one, at %d: %d, %v", k, n, ok)
		}
		list := s.Parts[0].Compound.Pseudos[0].List
		list[1] = read(t, ".c")[0]
		if k == 1 {
			list[1] = read(t, "d")[0]
		} else if k == 2 {
			list[0], list[1] = read(t, "*")[0], read(t, "*")[0]
		}
	}
}

// TestGrown holds the sum of a byte and another number, of each kind, against one that has room enough.
func TestGrown(t *testing.T) {
	for a := range 256 {
		for b := range 256 {
			want := uint8(min(a+b, 255))
			if got := grown(uint8(a), b); got != want {
				t.Errorf("%d and the int %d: %d", a, b, got)
			}
			if got := grown(uint8(a), uint8(b)); got != want {
				t.Errorf("%d and the byte %d: %d", a, b, got)
			}
		}
		for _, b := range []int{256, 257, 511, 512, 65536, 1<<31 - 1, math.MaxInt} {
			if got := grown(uint8(a), b); got != 255 {
				t.Errorf("%d and %d: %d", a, b, got)
			}
		}
	}
}
