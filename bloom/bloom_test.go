package bloom

import (
	"hash/fnv"
	"math"
	"reflect"
	"slices"
	"strings"
	"testing"

	"tapestrier/api"
	"tapestrier/sel"
	"tapestrier/text"
	"tapestrier/tok"
)

// plainHash is the library's hash of the same kind, of the kind's lowest byte and the text behind it.
func plainHash(kind int, s string) int {
	h := fnv.New32a()
	h.Write(append([]byte{byte(kind & 255)}, s...))
	return int(h.Sum32())
}

func tag(s string) int   { return plainHash(1, s) }
func id(s string) int    { return plainHash(2, s) }
func class(s string) int { return plainHash(3, s) }

// read makes the selector that the text is.
func read(t *testing.T, s string) api.Selector {
	t.Helper()
	l, ok := sel.Parse(tok.Tokens(text.Prepare([]byte(s))))
	if !ok || len(l) != 1 {
		t.Fatalf("no selector: %q", s)
	}
	return l[0]
}

func wantHashes(t *testing.T, what any, got []int, want ...int) {
	t.Helper()
	if !slices.Equal(got, want) {
		t.Errorf("%+v: %v, want %v", what, got, want)
	}
}

// TestP1301HashKnown: numbers that were worked out elsewhere.
func TestP1301HashKnown(t *testing.T) {
	for _, r := range []struct {
		kind int
		s    string
		want int
	}{
		{0, "", 84696351},
		{'a', "", 0xe40c292c},
		{'b', "", 0xe70c2de5},
		{'f', "oobar", 0xbf9cf968},
	} {
		if got := Hash(r.kind, r.s); got != r.want {
			t.Errorf("Hash(%d, %q): %d, want %d", r.kind, r.s, got, r.want)
		}
	}
}

// TestP1301HashKinds: of the kind the lowest byte counts, whatever the number.
func TestP1301HashKinds(t *testing.T) {
	kinds := []int{0, 1, 2, 3, 127, 128, 255, 256, 257, 511, 1 << 16, 1<<32 + 1, -1, -2, -255, -256, -257, math.MinInt, math.MinInt + 3, math.MaxInt}
	for _, kind := range kinds {
		for _, s := range []string{"", "a", "ab"} {
			got := Hash(kind, s)
			if got != plainHash(kind, s) || got != Hash(kind&255, s) {
				t.Errorf("Hash(%d, %q): %d, want %d", kind, s, got, plainHash(kind, s))
			}
		}
	}
	if Hash(1, "a") == Hash(2, "a") || Hash(2, "a") == Hash(3, "a") || Hash(1, "a") == Hash(3, "a") {
		t.Error("the kind makes no difference")
	}
}

// TestP1301HashBytes: each byte counts, in turn, be the text UTF-8 or not.
func TestP1301HashBytes(t *testing.T) {
	list := []string{"ab", "ba", "A", "a", "aa", " ", "\x00", "\x00\x00", "\x7f", "\x80", "\xff", "\xff\xfe", "\ufffd", "ä", "a\u0308", "\U0001f600", "some name", strings.Repeat("xyz", 1<<16)}
	seen := map[int]string{}
	for _, s := range list {
		got := Hash(3, s)
		if got != class(s) {
			t.Errorf("Hash(3, %.20q): %d, want %d", s, got, class(s))
		}
		if got < 0 || got > math.MaxUint32 {
			t.Errorf("Hash(3, %.20q): %d", s, got)
		}
		if o, ok := seen[got]; ok {
			t.Errorf("%.20q and %.20q have one hash", s, o)
		}
		seen[got] = s
	}
	for b := range 256 {
		if got := Hash(1, string([]byte{byte(b)})); got != tag(string([]byte{byte(b)})) {
			t.Errorf("byte %d: %d", b, got)
		}
	}
}

func TestP1301Of(t *testing.T) {
	for _, r := range []struct {
		n    api.Node
		want []int
	}{
		{api.Node{}, nil},
		{api.Node{Parent: -1, Classes: []string{}, Attrs: []api.Pair{}}, nil},
		{api.Node{Tag: "a"}, []int{tag("a")}},
		{api.Node{ID: "a"}, []int{id("a")}},
		{api.Node{Classes: []string{"a"}}, []int{class("a")}},
		{api.Node{Classes: []string{""}}, []int{class("")}},
		{api.Node{Tag: "a", ID: "a", Classes: []string{"a"}}, []int{tag("a"), id("a"), class("a")}},
		{api.Node{Tag: "t", Classes: []string{"z", "a", "", "z", "m", "z"}}, []int{tag("t"), class("z"), class("a"), class(""), class("z"), class("m"), class("z")}},
		{api.Node{ID: "i", Classes: []string{"c"}}, []int{id("i"), class("c")}},
		{api.Node{Tag: "DIV", ID: "Top", Classes: []string{"Q", "\xff"}}, []int{tag("DIV"), id("Top"), class("Q"), class("\xff")}},
		{api.Node{Parent: math.MinInt, Attrs: []api.Pair{{Name: "id", Text: "a"}, {Name: "class", Text: "b"}}}, nil},
	} {
		wantHashes(t, r.n, Of(r.n), r.want...)
	}
}

func TestP1301Wants(t *testing.T) {
	for s, want := range map[string][]int{
		"a.b#c":                       nil,
		"a b":                         {tag("a")},
		"a > b":                       {tag("a")},
		"a + b":                       nil,
		"a ~ b":                       nil,
		"* a":                         nil,
		"a * b":                       {tag("a")},
		"#i b":                        {id("i")},
		".c > b":                      {class("c")},
		"A B":                         {tag("a")},
		".A #B c":                     {id("B"), class("A")},
		".y.x#j#i.y b":                {id("j"), id("i"), class("y"), class("x"), class("y")},
		"t.y#j.x#i b":                 {tag("t"), id("j"), id("i"), class("y"), class("x")},
		"a.p b.q > c.r d.s":           {tag("c"), class("r"), tag("b"), class("q"), tag("a"), class("p")},
		"a a a a":                     {tag("a"), tag("a"), tag("a")},
		"a + b c":                     {tag("b")},
		"a ~ b > c":                   {tag("b")},
		"a b + c":                     nil,
		"a b ~ c":                     nil,
		"a b + c d":                   {tag("c")},
		"a > b ~ c > d e":             {tag("d"), tag("c")},
		"a b > c + d":                 nil,
		"a > [href]:first-child > b":  {tag("a")},
		":is(p q) r :not(#x .y) z":    {tag("r")},
		".c:is(.d, #e):not(t) z":      {class("c")},
		"[class=a][id=b] > :root > z": nil,
	} {
		wantHashes(t, s, Wants(read(t, s)), want...)
	}
}

// TestP1301WantsCombs: of any number only CWithin and CChild lead on; the first part's Comb leads nowhere, and is not looked at.
func TestP1301WantsCombs(t *testing.T) {
	part := func(comb int, s string) api.Part {
		return api.Part{Comb: comb, Compound: api.Compound{Tag: s}}
	}
	for _, comb := range []int{0, 1, 2, 3, 4, 5, 6, 9, 255, 257, 258, -1, -2, math.MinInt, math.MaxInt, 1<<32 + 1} {
		near, far := []int(nil), []int{tag("b")}
		if comb == api.CWithin || comb == api.CChild {
			near, far = []int{tag("b"), tag("a")}, []int{tag("b"), tag("a")}
		}
		wantHashes(t, comb, Wants(api.Selector{Parts: []api.Part{part(api.CNone, "a"), part(api.CWithin, "b"), part(comb, "c")}}), near...)
		wantHashes(t, comb, Wants(api.Selector{Parts: []api.Part{part(api.CNone, "a"), part(comb, "b"), part(api.CChild, "c")}}), far...)
		wantHashes(t, comb, Wants(api.Selector{Parts: []api.Part{part(comb, "a"), part(api.CChild, "b")}}), tag("a"))
		wantHashes(t, comb, Wants(api.Selector{Parts: []api.Part{part(comb, "a")}}))
	}
}

// TestP1301WantsEdges: no parts, empty names, and more parts and lists than selectors have that match.
func TestP1301WantsEdges(t *testing.T) {
	wantHashes(t, "none", Wants(api.Selector{}))
	wantHashes(t, "none", Wants(api.Selector{Parts: []api.Part{}}))
	empty := api.Compound{IDs: []string{"", "i", ""}, Classes: []string{"", "", "c"}}
	last := api.Part{Comb: api.CWithin, Compound: empty}
	wantHashes(t, "empty names", Wants(api.Selector{Parts: []api.Part{{Compound: empty}, last}}), id(""), id("i"), id(""), class(""), class(""), class("c"))
	wantHashes(t, "zero parts", Wants(api.Selector{Parts: []api.Part{{}, {}, {}}}))

	var long api.Selector
	var want []int
	for range 1000 {
		long.Parts = append(long.Parts, api.Part{Comb: api.CChild, Compound: api.Compound{Tag: "a", Classes: []string{"b"}}})
		want = append(want, tag("a"), class("b"))
	}
	wantHashes(t, "many parts", Wants(long), want[2:]...)

	within := []api.Selector{{Parts: []api.Part{{Compound: api.Compound{Tag: "a", Pseudos: make([]api.Pseudo, 1)}}, {Comb: api.CWithin}}}}
	within[0].Parts[0].Compound.Pseudos[0] = api.Pseudo{Kind: api.SIs, List: within}
	wantHashes(t, "a list in itself", Wants(within[0]), tag("a"))
}

// rich makes a selector and a node with spare room behind each list.
func rich() (api.Selector, api.Node) {
	c := api.Compound{
		Tag:     "a",
		IDs:     []string{"j", "i", "spare"}[:2],
		Classes: []string{"q", "p", "q", "spare"}[:3],
		Attrs:   []api.Attr{{Name: "m"}, {Name: "spare"}}[:1],
		Pseudos: []api.Pseudo{{Kind: api.SRoot}, {Kind: 99}}[:1],
	}
	s := api.Selector{Parts: []api.Part{{Compound: c}, {Comb: api.CChild, Compound: c}, {Comb: 99}}[:2]}
	n := api.Node{Parent: 7, Tag: "a", ID: "i", Classes: []string{"q", "p", "q", "spare"}[:3], Attrs: []api.Pair{{Name: "m"}, {Name: "spare"}}[:1]}
	return s, n
}

// rooms tells all that stands in the memory of a selector and a node, spare room too.
func rooms(s api.Selector, n api.Node) []any {
	out := []any{n.Classes[:cap(n.Classes)], n.Attrs[:cap(n.Attrs)], s.Parts[:cap(s.Parts)]}
	for _, p := range s.Parts {
		c := p.Compound
		out = append(out, c.IDs[:cap(c.IDs)], c.Classes[:cap(c.Classes)], c.Attrs[:cap(c.Attrs)], c.Pseudos[:cap(c.Pseudos)])
	}
	return out
}

func TestP1303HandedInStays(t *testing.T) {
	s, n := rich()
	Wants(s)
	Of(n)
	if !reflect.DeepEqual(rooms(s, n), rooms(rich())) {
		t.Errorf("behind the calls: %+v", rooms(s, n))
	}
}

func TestP1303AnswersAreNew(t *testing.T) {
	s, n := rich()
	for _, call := range []func() []int{func() []int { return Wants(s) }, func() []int { return Of(n) }} {
		got, again := call(), call()
		want := slices.Clone(got)
		got = got[:cap(got)]
		for i := range got {
			got[i] = -7
		}
		wantHashes(t, "the answer of before", again, want...)
		wantHashes(t, "the answer behind it", call(), want...)
	}
}

// TestIteratorsAreLeft: whoever ranges may break behind each hash.
func TestIteratorsAreLeft(t *testing.T) {
	s, n := rich()
	s.Parts = append(s.Parts, s.Parts[1])
	l := []int{5 + 7*1024, 6 + 6*1024, 8 + 9*1024}
	for _, r := range []struct {
		what string
		all  []int
		some func(int) []int
	}{
		{"hashesOf", Of(n), func(k int) []int { return first(hashesOf(n), k) }},
		{"wanted", Wants(s), func(k int) []int { return first(wanted(s), k) }},
		{"countersOfAll", []int{5, 7, 6, 8, 9}, func(k int) []int { return first(countersOfAll(l), k) }},
	} {
		for k := 1; k <= len(r.all); k++ {
			wantHashes(t, r.what, r.some(k), r.all[:k]...)
		}
	}
}

// first tells the first k of what is told.
func first[N int | uint32](seq func(func(N) bool), k int) []int {
	var out []int
	for n := range seq {
		out = append(out, int(n))
		if len(out) == k {
			break
		}
	}
	return out
}
