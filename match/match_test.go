package match

import (
	"math"
	"reflect"
	"slices"
	"strconv"
	"strings"
	"testing"

	"tapestrier/api"
	"tapestrier/dom"
)

// bare makes nodes of these parents, each of tag b.
func bare(parents ...int) page {
	var l page
	for _, p := range parents {
		l = append(l, api.Node{Parent: p, Tag: "b"})
	}
	return l
}

// wide makes a root, and n - 1 children of it.
func wide(n int) page { return bare(append([]int{-1}, make([]int, n-1)...)...) }

// chain makes n nodes, each the only child of the one ahead.
func chain(n int) page {
	l := bare(make([]int, n)...)
	for k := range l {
		l[k].Parent = k - 1
	}
	return l
}

func part(comb int, tag string) api.Part {
	return api.Part{Comb: comb, Compound: api.Compound{Tag: tag}}
}

// listed makes a selector of one part, that is a not or an is.
func listed(kind int, l ...api.Selector) api.Selector {
	return api.Selector{Parts: []api.Part{{Compound: pseudo(kind, l...)}}}
}

func pseudo(kind int, l ...api.Selector) api.Compound {
	return api.Compound{Pseudos: []api.Pseudo{{Kind: kind, List: l}}}
}

// row makes a selector of n parts: one of the tag first, and then all of this Comb and tag.
func row(n int, first string, comb int, tag string) api.Selector {
	s := api.Selector{Parts: []api.Part{part(api.CNone, first)}}
	for len(s.Parts) < n {
		s.Parts = append(s.Parts, part(comb, tag))
	}
	return s
}

// nested puts s into n lists of that kind, each in the next.
func nested(n, kind int, s api.Selector) api.Selector {
	for range n {
		s = listed(kind, s)
	}
	return s
}

// which tells the elements that are of the compound.
func which(x *dom.Tree, c api.Compound) string {
	var out []string
	for e := range x.Len() {
		if Compound(x, e, c) {
			out = append(out, strconv.Itoa(e))
		}
	}
	return strings.Join(out, " ")
}

func TestP1001Example(t *testing.T) {
	x := treeOf(t, wide(7))
	c := api.Compound{Pseudos: []api.Pseudo{{Kind: api.SNth, A: 2, B: 1}}}
	if got := which(x, c); got != "0 1 3 5" {
		t.Errorf("SNth 2, 1: %s", got)
	}
}

func TestP1001Names(t *testing.T) {
	l := page{
		{Parent: -1, Tag: "a", ID: "x", Classes: []string{"p", "q", "p"}},
		{Parent: 0, Tag: "b", ID: "X", Classes: []string{"P"}},
		{Parent: 0, Tag: "", ID: "", Classes: []string{""}},
		{Parent: 0, Tag: "a-b", ID: " x"},
	}
	x := treeOf(t, l)
	for _, r := range []struct {
		name string
		c    api.Compound
		want string
	}{
		{"nothing", api.Compound{}, "0 1 2 3"},
		{"a tag", api.Compound{Tag: "a"}, "0"},
		{"a tag as the tree has none", api.Compound{Tag: "A"}, ""},
		{"an ID", api.Compound{IDs: []string{"x"}}, "0"},
		{"an ID twice", api.Compound{IDs: []string{"x", "x"}}, "0"},
		{"two IDs", api.Compound{IDs: []string{"x", "X"}}, ""},
		{"an empty ID", api.Compound{IDs: []string{""}}, ""},
		{"a class", api.Compound{Classes: []string{"p"}}, "0"},
		{"two classes", api.Compound{Classes: []string{"q", "p", "q"}}, "0"},
		{"one class that it has not", api.Compound{Classes: []string{"p", "r"}}, ""},
		{"a great class", api.Compound{Classes: []string{"P"}}, "1"},
		{"an empty class", api.Compound{Classes: []string{""}}, "2"},
		{"all", api.Compound{Tag: "a", IDs: []string{"x"}, Classes: []string{"q"}}, "0"},
		{"another tag", api.Compound{Tag: "b", IDs: []string{"x"}, Classes: []string{"q"}}, ""},
		{"another ID", api.Compound{Tag: "a", IDs: []string{"X"}, Classes: []string{"q"}}, ""},
		{"another class", api.Compound{Tag: "a", IDs: []string{"x"}, Classes: []string{"P"}}, ""},
	} {
		if got := which(x, r.c); got != r.want {
			t.Errorf("%s: %q, want %q", r.name, got, r.want)
		}
	}
}

func TestP1001TagsAreLowered(t *testing.T) {
	x := treeOf(t, page{{Parent: -1, Tag: "LI", Attrs: []api.Pair{{Name: "HREF", Text: "UP"}}}})
	if !Compound(x, 0, api.Compound{Tag: "li", Attrs: []api.Attr{{Name: "href", Op: api.AIs, Text: "UP"}}}) {
		t.Error("li[href=UP]")
	}
	if Compound(x, 0, api.Compound{Tag: "LI"}) || Compound(x, 0, api.Compound{Attrs: []api.Attr{{Name: "HREF"}}}) || Compound(x, 0, api.Compound{Attrs: []api.Attr{{Name: "href", Op: api.AIs, Text: "up"}}}) {
		t.Error("names or texts in another case")
	}
}

func TestP1001Texts(t *testing.T) {
	for _, r := range []struct {
		op   int
		text string
		yes  []string
		no   []string
	}{
		{api.AHas, "", []string{"", "a"}, nil},
		{api.AHas, "zz", []string{"", "a"}, nil},
		{api.AIs, "ab", []string{"ab"}, []string{"", "a", "abc", "AB", " ab", "ab "}},
		{api.AIs, "", []string{""}, []string{" ", "a"}},
		{api.AWord, "ab", []string{"ab", " ab", "ab ", "c ab d", "\tab", "\nab\f", "c\rab", "c \t\n\f\rab", "ab\xff ab"}, []string{"", "abc", "cab", "a b", "ab-", "AB", "ab\v", "\vab", "ab\x00", "c\u00a0ab", "ab\u0085", "ab\u2003c", "ab\xff"}},
		{api.AWord, "", nil, []string{"", " ", "a  b", " a", "a "}},
		{api.AWord, "a b", nil, []string{"a b", "a b c", " a b ", "a", "b"}},
		{api.AWord, " ", nil, []string{" ", "   ", "a b", ""}},
		{api.AWord, "a\v", []string{"a\v", "b a\v"}, []string{"a", "a\v\v"}},
		{api.AWord, "a ", nil, []string{"a ", "a  ", "a"}},
		{api.AWord, "\f", nil, []string{"\f", "a\fb"}},
		{api.AWord, "é\xff", []string{"é\xff", "b\té\xff"}, []string{"é", "\xff", "é\xfe", "é\uFFFD"}},
		{api.ADash, "ab", []string{"ab", "ab-", "ab-c", "ab--"}, []string{"", "a", "abc", "ab_", "-ab", "c-ab", "AB-", "a-b"}},
		{api.ADash, "", []string{"", "-", "-a"}, []string{"a", "a-", " "}},
		{api.ADash, "a-b", []string{"a-b", "a-b-c"}, []string{"a-", "a", "a-bc"}},
		{api.ABegins, "ab", []string{"ab", "abc", "ab "}, []string{"", "a", "cab", " ab", "Ab"}},
		{api.ABegins, "", nil, []string{"", "a"}},
		{api.AEnds, "ab", []string{"ab", "cab", " ab"}, []string{"", "b", "abc", "ab ", "aB"}},
		{api.AEnds, "", nil, []string{"", "a"}},
		{api.AIn, "ab", []string{"ab", "cab", "abc", "cabd", "aab"}, []string{"", "a", "b", "a b", "ba"}},
		{api.AIn, " ", []string{" ", "a b"}, []string{"", "ab", "\t"}},
		{api.AIn, "", nil, []string{"", "a"}},
		{-1, "a", nil, []string{"", "a"}},
		{7, "a", nil, []string{"", "a"}},
		{math.MaxInt, "", nil, []string{"", "a"}},
		{1 << 32, "", nil, []string{"", "a"}},
	} {
		for _, s := range r.yes {
			wantText(t, s, api.Attr{Name: "m", Op: r.op, Text: r.text}, true)
		}
		for _, s := range r.no {
			wantText(t, s, api.Attr{Name: "m", Op: r.op, Text: r.text}, false)
		}
	}
}

// wantText asks whether an element whose attribute has this text is as a says.
func wantText(t *testing.T, s string, a api.Attr, want bool) {
	t.Helper()
	x := treeOf(t, page{{Parent: -1, Attrs: []api.Pair{{Name: "l", Text: "other"}, {Name: "m", Text: s}}}})
	if got := Compound(x, 0, api.Compound{Attrs: []api.Attr{a}}); got != want {
		t.Errorf("the text %q, operator %d, of %q: %v", s, a.Op, a.Text, got)
	}
	a.Name = "o"
	if Compound(x, 0, api.Compound{Attrs: []api.Attr{a}}) {
		t.Errorf("operator %d of an attribute that is not there", a.Op)
	}
}

// TestP1001AllTexts goes through all short texts and all operators.
func TestP1001AllTexts(t *testing.T) {
	texts := []string{""}
	for i := 0; len(texts[i]) < 4; i++ {
		for _, c := range []string{"a", "-", " ", "\f"} {
			texts = append(texts, texts[i]+c)
		}
	}
	for _, s := range texts {
		l := page{{Parent: -1, Attrs: []api.Pair{{Name: "m", Text: s}}}}
		x := treeOf(t, l)
		for _, want := range texts {
			if len(want) > 3 {
				continue
			}
			for op := -1; op < 8; op++ {
				c := api.Compound{Attrs: []api.Attr{{Name: "m", Op: op, Text: want}}}
				if got := Compound(x, 0, c); got != l.compound(0, c) {
					t.Errorf("the text %q, operator %d, of %q: %v", s, op, want, got)
				}
			}
		}
	}
}

func TestP1001FirstAttributeOfAName(t *testing.T) {
	x := treeOf(t, page{{Parent: -1, Attrs: []api.Pair{{Name: "n", Text: "0"}, {Name: "M", Text: "1"}, {Name: "m", Text: "2"}, {Name: "", Text: "3"}}}})
	is := func(name, text string) bool {
		return Compound(x, 0, api.Compound{Attrs: []api.Attr{{Name: name, Op: api.AIs, Text: text}}})
	}
	if !is("n", "0") || !is("m", "1") || is("m", "2") || is("n", "1") || !is("", "3") || is("o", "") {
		t.Error("of several attributes of a name the first one counts")
	}
	both := api.Compound{Attrs: []api.Attr{{Name: "m", Op: api.AIs, Text: "1"}, {Name: "n", Op: api.AIs, Text: "1"}}}
	if Compound(x, 0, both) {
		t.Error("one of two attributes is enough")
	}
}

func TestP1001Places(t *testing.T) {
	//  0 has 1, 2, 5; 2 has 3, 4; 4 has 6; 5 has 7
	x := treeOf(t, bare(-1, 0, 0, 2, 2, 0, 4, 5))
	for _, r := range []struct {
		kind int
		want string
	}{
		{api.SRoot, "0"},
		{api.SFirst, "0 1 3 6 7"},
		{api.SLast, "0 4 5 6 7"},
		{api.SOnly, "0 6 7"},
		{api.SEmpty, "1 3 6 7"},
		{api.SNth, ""},
		{api.SNot, "0 1 2 3 4 5 6 7"},
		{api.SIs, ""},
		{0, ""}, {9, ""}, {-1, ""}, {math.MinInt, ""}, {math.MaxInt, ""}, {1<<32 + 1, ""},
	} {
		if got := which(x, pseudo(r.kind)); got != r.want {
			t.Errorf("the pseudo-class %d: %q, want %q", r.kind, got, r.want)
		}
	}
	two := api.Compound{Pseudos: []api.Pseudo{{Kind: api.SFirst}, {Kind: api.SEmpty}}}
	if got := which(x, two); got != "1 3 6 7" {
		t.Errorf("two pseudo-classes: %s", got)
	}
	two.Pseudos = append(two.Pseudos, api.Pseudo{Kind: 99})
	if got := which(x, two); got != "" {
		t.Errorf("one of three is none: %s", got)
	}
}

func TestP1001Nth(t *testing.T) {
	l := wide(13)
	x := treeOf(t, l)
	numbers := []int{math.MinInt, math.MinInt + 1, math.MinInt + 12, -1 << 62, -1 << 32, math.MaxInt, math.MaxInt - 1, 1 << 62, 1 << 32, 1<<32 + 3}
	for n := -15; n <= 15; n++ {
		numbers = append(numbers, n)
	}
	for _, a := range numbers {
		for _, b := range numbers {
			for e := range l {
				c := api.Compound{Pseudos: []api.Pseudo{{Kind: api.SNth, A: a, B: b}}}
				if got := Compound(x, e, c); got != plainRow(max(1, e), a, b) {
					t.Errorf("SNth %d, %d of element %d: %v", a, b, e, got)
				}
			}
		}
	}
}

func TestP1001Lists(t *testing.T) {
	// 0 a has 1 b, 2 c; 2 has 3 b
	l := bare(-1, 0, 0, 2)
	l[0].Tag, l[2].Tag = "a", "c"
	x := treeOf(t, l)
	a, b, no := row(1, "a", 0, ""), row(1, "b", 0, ""), api.Selector{}
	far := row(2, "c", api.CChild, "b")
	for _, r := range []struct {
		name string
		c    api.Compound
		want string
	}{
		{"is a", pseudo(api.SIs, a), "0"},
		{"is a or b", pseudo(api.SIs, a, b), "0 1 3"},
		{"is c > b", pseudo(api.SIs, far), "3"},
		{"is none", pseudo(api.SIs, no), ""},
		{"is none or b", pseudo(api.SIs, no, b), "1 3"},
		{"not a", pseudo(api.SNot, a), "1 2 3"},
		{"not a nor b", pseudo(api.SNot, a, b), "2"},
		{"not c > b", pseudo(api.SNot, far), "0 1 2"},
		{"not none", pseudo(api.SNot, no), "0 1 2 3"},
		{"not not b", pseudo(api.SNot, listed(api.SNot, b)), "1 3"},
		{"not what is no kind", pseudo(api.SNot, listed(77)), "0 1 2 3"},
		{"b and not c > b", api.Compound{Tag: "b", Pseudos: pseudo(api.SNot, far).Pseudos}, "1"},
	} {
		if got := which(x, r.c); got != r.want {
			t.Errorf("%s: %q, want %q", r.name, got, r.want)
		}
	}
}

func TestP1001NoElement(t *testing.T) {
	x := treeOf(t, wide(3))
	empty := treeOf(t, nil)
	all := api.Selector{Parts: []api.Part{{}}}
	for _, s := range []api.Selector{all, listed(api.SNot), listed(api.SNot, all), nested(2, api.SNot, all)} {
		c := s.Parts[0].Compound
		for _, e := range []int{-1, -2, 3, 4, math.MinInt, math.MaxInt, 1 << 32} {
			for _, tree := range []*dom.Tree{x, empty, {}} {
				if Compound(tree, e, c) || Selector(tree, e, s) || Any(tree, e, []api.Selector{s}) {
					t.Errorf("the element %d: %+v", e, s)
				}
			}
		}
		for _, e := range []int{0, -1, 1} {
			if Compound(nil, e, c) || Selector(nil, e, s) || Any(nil, e, []api.Selector{s}) {
				t.Errorf("the element %d of no tree: %+v", e, s)
			}
		}
		if Compound(empty, 0, c) || Selector(empty, 0, s) || Any(&dom.Tree{}, 0, []api.Selector{s}) {
			t.Errorf("the root of a tree of nothing: %+v", s)
		}
	}
}

func TestP1002Combs(t *testing.T) {
	// 0 r has 1 a, 2 b, 5 c, 7 b; 2 has 3 a, 4 b; 5 has 6 b; 7 has 8 c
	l := bare(-1, 0, 0, 2, 2, 0, 5, 0, 7)
	for k, tag := range []string{"r", "a", "b", "a", "b", "c", "b", "b", "c"} {
		l[k].Tag = tag
	}
	x := treeOf(t, l)
	for _, r := range []struct {
		parts []api.Part
		want  []int
	}{
		{[]api.Part{part(0, "r"), part(api.CWithin, "b")}, []int{2, 4, 6, 7}},
		{[]api.Part{part(0, "r"), part(api.CChild, "b")}, []int{2, 7}},
		{[]api.Part{part(0, "b"), part(api.CWithin, "b")}, []int{4}},
		{[]api.Part{part(0, "a"), part(api.CNext, "b")}, []int{2, 4}},
		{[]api.Part{part(0, "b"), part(api.CNext, "b")}, nil},
		{[]api.Part{part(0, "a"), part(api.CAfter, "b")}, []int{2, 4, 7}},
		{[]api.Part{part(0, "b"), part(api.CAfter, "b")}, []int{7}},
		{[]api.Part{part(0, "c"), part(api.CAfter, "a")}, nil},
		{[]api.Part{part(0, ""), part(api.CAfter, "r")}, nil},
		{[]api.Part{part(0, ""), part(api.CNext, "r")}, nil},
		{[]api.Part{part(0, ""), part(api.CChild, "r")}, nil},
		{[]api.Part{part(0, ""), part(api.CWithin, "r")}, nil},
		{[]api.Part{part(0, "a"), part(api.CNext, "b"), part(api.CChild, "b")}, []int{4}},
		{[]api.Part{part(0, "b"), part(api.CAfter, ""), part(api.CWithin, "c")}, []int{8}},
		{[]api.Part{part(0, "a"), part(api.CAfter, "c"), part(api.CChild, "b")}, []int{6}},
	} {
		var got []int
		for e := range l {
			if Selector(x, e, api.Selector{Parts: r.parts}) {
				got = append(got, e)
			}
		}
		if !slices.Equal(got, r.want) {
			t.Errorf("%+v: %v, want %v", r.parts, got, r.want)
		}
	}
}

func TestP1002WrongOnes(t *testing.T) {
	x := treeOf(t, chain(4))
	if Selector(x, 0, api.Selector{}) || Selector(x, 0, api.Selector{Parts: []api.Part{}}) || Any(x, 0, nil) || Any(x, 0, []api.Selector{{}, {}}) {
		t.Error("no parts, no selectors")
	}
	for _, comb := range []int{0, -1, 5, 6, math.MinInt, math.MaxInt, 1<<32 + 1} {
		for e := range 4 {
			if Selector(x, e, row(2, "", comb, "")) || Selector(x, e, api.Selector{Parts: []api.Part{part(0, ""), part(comb, ""), part(api.CWithin, "")}}) {
				t.Errorf("the Comb %d leads to some element", comb)
			}
			if !Selector(x, e, api.Selector{Parts: []api.Part{part(comb, "b")}}) {
				t.Errorf("the Comb %d of the first part is looked at", comb)
			}
		}
		first := api.Selector{Parts: []api.Part{part(comb, "b"), part(api.CChild, "b")}}
		if Selector(x, 0, first) || !Selector(x, 1, first) {
			t.Errorf("the Comb %d of the first of two parts is looked at", comb)
		}
	}
	if !Any(x, 0, []api.Selector{{}, row(1, "x", 0, ""), row(1, "b", 0, "")}) {
		t.Error("the last one of several")
	}
}

func TestP1003Deep(t *testing.T) {
	x := treeOf(t, wide(3))
	b := row(1, "b", 0, "")
	for n := range 30 {
		for _, kind := range []int{api.SNot, api.SIs} {
			s := nested(n, kind, b)
			want := n <= 8 && (kind == api.SIs || n%2 == 0)
			if Selector(x, 1, s) != want || Compound(x, 1, s.Parts[0].Compound) != want || Any(x, 1, []api.Selector{s}) != want {
				t.Errorf("%d lists of %d in each other: not %v", n, kind, want)
			}
			// A not around it does not turn the answer round.
			want = n+1 <= 8 && (kind == api.SNot && n%2 == 1)
			if s = listed(api.SNot, s); Selector(x, 1, s) != want {
				t.Errorf("%d lists of %d in a not: not %v", n, kind, want)
			}
		}
	}
	if !Selector(x, 1, nested(8, api.SNot, b)) || Selector(x, 1, nested(10, api.SNot, b)) {
		t.Error("8 are allowed, 10 are not")
	}
	// A list without selectors is a list, too.
	if !Selector(x, 1, nested(6, api.SIs, listed(api.SNot))) || !Selector(x, 1, nested(7, api.SIs, listed(api.SNot))) || Selector(x, 1, nested(8, api.SIs, listed(api.SNot))) {
		t.Error("an empty list at the bottom")
	}
}

func TestP1003Anywhere(t *testing.T) {
	x := treeOf(t, wide(3))
	all, b := api.Selector{Parts: []api.Part{{}}}, row(1, "b", 0, "")
	for name, bad := range map[string]api.Selector{"deep": nested(9, api.SIs, b), "long": row(51, "b", api.CAfter, "b"), "long, of any": row(60, "", api.CWithin, ""), "long, in a list": listed(api.SNot, row(51, "x", 9, "x"))} {
		for k, s := range []api.Selector{
			bad,
			listed(api.SNot, bad),
			listed(api.SIs, b, bad),
			listed(api.SIs, all, bad, b),
			listed(api.SNot, row(1, "x", 0, ""), bad),
			nested(7, api.SNot, listed(api.SIs, all, bad)),
			{Parts: []api.Part{{Compound: pseudo(api.SIs, all, bad)}, part(api.CChild, "b")}},
			{Parts: []api.Part{part(0, "b"), {Comb: api.CChild, Compound: pseudo(api.SNot, bad)}}},
			{Parts: []api.Part{{Compound: api.Compound{Pseudos: []api.Pseudo{{Kind: api.SFirst}, {Kind: api.SNot, List: []api.Selector{bad}}}}}}},
		} {
			if Selector(x, 1, s) || Any(x, 1, []api.Selector{s}) || len(s.Parts) == 1 && Compound(x, 1, s.Parts[0].Compound) {
				t.Errorf("%s, %d", name, k)
			}
			// Of Any it is that one alone.
			if !Any(x, 1, []api.Selector{s, b}) || !Any(x, 1, []api.Selector{b, s}) || Any(x, 1, []api.Selector{s, row(1, "x", 0, "")}) {
				t.Errorf("%s, %d: one of several", name, k)
			}
		}
	}
}

func TestP1003Long(t *testing.T) {
	x := treeOf(t, chain(60))
	for n := 1; n < 100; n++ {
		for _, comb := range []int{api.CWithin, api.CChild} {
			s := row(n, "b", comb, "b")
			if Selector(x, 59, s) != (n <= 50) || Any(x, 59, []api.Selector{s}) != (n <= 50) {
				t.Errorf("%d parts", n)
			}
			if Selector(x, n-2, s) {
				t.Errorf("%d parts of %d elements", n, n-1)
			}
			if Compound(x, 59, pseudo(api.SNot, row(n, "x", comb, "b"))) != (n <= 50) {
				t.Errorf("not of %d parts", n)
			}
		}
	}
	// Lists may have more.
	var l []api.Selector
	for range 200 {
		l = append(l, row(50, "x", api.CChild, "b"))
	}
	if Any(x, 59, l) || !Any(x, 59, append(l, row(50, "b", api.CChild, "b"))) || !Compound(x, 59, pseudo(api.SNot, l...)) {
		t.Error("a list of 200 selectors of 50 parts")
	}
}

// TestP1003NotLookedAt: a List means something in a not and an is alone.
func TestP1003NotLookedAt(t *testing.T) {
	x := treeOf(t, wide(3))
	for _, bad := range []api.Selector{nested(20, api.SIs, row(1, "b", 0, "")), row(51, "b", api.CAfter, "b")} {
		for kind := range 10 {
			if kind != api.SNot && kind != api.SIs && which(x, pseudo(kind, bad)) != which(x, pseudo(kind)) {
				t.Errorf("the List of a pseudo-class %d is looked at", kind)
			}
		}
		if !Compound(x, 1, pseudo(api.SNot, listed(99, bad))) {
			t.Error("the List of a pseudo-class 99 in a not is looked at")
		}
	}
}

// TestP1003ListsInThemselves: they are deeper than any bound.
func TestP1003ListsInThemselves(t *testing.T) {
	x := treeOf(t, wide(3))
	for _, kind := range []int{api.SNot, api.SIs} {
		l := make([]api.Selector, 3)
		for k := range l {
			l[k] = listed(kind, l...)
			l[k].Parts[0].Compound.Pseudos[0].List = l
		}
		if Any(x, 1, l) || Selector(x, 1, l[0]) || Compound(x, 1, pseudo(kind, l...)) {
			t.Errorf("lists of %d in themselves", kind)
		}
	}
}

// full makes a selector that has all that a selector may have, with spare room behind each list.
func full() api.Selector {
	inner := []api.Selector{row(2, "a", api.CChild, "b"), row(1, "spare", 0, "")}[:1]
	c := api.Compound{
		Tag:     "b",
		IDs:     []string{"x", "spare"}[:1],
		Classes: []string{"p", "q", "spare"}[:2],
		Attrs:   []api.Attr{{Name: "m", Op: api.AWord, Text: "1"}, {Name: "spare"}}[:1],
		Pseudos: []api.Pseudo{{Kind: api.SNot, List: inner}, {Kind: api.SNth, A: 1}, {Kind: 99}}[:2],
	}
	return api.Selector{Parts: []api.Part{{Compound: c}, {Comb: api.CWithin, Compound: c}, part(9, "spare")}[:2]}
}

// rooms tells the selector with all lists up to the end of their room.
func rooms(s api.Selector) api.Selector {
	s.Parts = slices.Clone(s.Parts[:cap(s.Parts)])
	for k := range s.Parts[:2] {
		c := &s.Parts[k].Compound
		c.IDs, c.Classes, c.Attrs = c.IDs[:cap(c.IDs)], c.Classes[:cap(c.Classes)], c.Attrs[:cap(c.Attrs)]
		c.Pseudos = slices.Clone(c.Pseudos[:cap(c.Pseudos)])
		c.Pseudos[0].List = c.Pseudos[0].List[:cap(c.Pseudos[0].List)]
	}
	return s
}

func TestP1003HandedInStays(t *testing.T) {
	l := chain(4)
	for k := range l {
		l[k].ID, l[k].Classes, l[k].Attrs = "x", []string{"q", "p"}, []api.Pair{{Name: "m", Text: "2 1"}}
	}
	x, untouched := treeOf(t, l), treeOf(t, l)
	s := full()
	sels := []api.Selector{{}, s, {Parts: []api.Part{part(9, "spare")}}}[:2]
	for range 3 {
		for e := range l {
			if Selector(x, e, s) != (e > 0) || Any(x, e, sels) != (e > 0) || !Compound(x, e, s.Parts[1].Compound) {
				t.Errorf("the element %d", e)
			}
		}
	}
	if !reflect.DeepEqual(rooms(s), rooms(full())) || sels[:3][2].Parts[0].Comb != 9 {
		t.Errorf("what was handed in: %+v", rooms(s))
	}
	if !reflect.DeepEqual(x, untouched) {
		t.Error("the tree has changed")
	}
	// What is written into a selector later counts at the next call.
	s.Parts[0].Compound.Tag = "z"
	if Selector(x, 3, s) || Any(x, 3, sels) {
		t.Error("something was kept")
	}
}

// TestP1003SharedMemory: parts that share memory, as pieces of one list, are asked each for itself.
func TestP1003SharedMemory(t *testing.T) {
	l := bare(-1, 0, 1, 2, 2, 2)
	l[0].Tag, l[4].Tag = "a", "c"
	x := treeOf(t, l)
	parts := []api.Part{part(0, "a"), part(api.CWithin, "b"), part(api.CChild, ""), part(api.CAfter, "b")}
	var sels []api.Selector
	for from := range parts {
		for to := from; to <= len(parts); to++ {
			sels = append(sels, api.Selector{Parts: parts[from:to]})
		}
	}
	for _, s := range sels {
		for _, kind := range []int{api.SNot, api.SIs} {
			in := api.Part{Comb: api.CWithin, Compound: pseudo(kind, sels...)}
			own := api.Part{Comb: api.CAfter, Compound: pseudo(kind, s)}
			compare(t, l, x, []api.Selector{s, {Parts: append(slices.Clip(s.Parts), in)}, {Parts: append(slices.Clip(s.Parts), own, in)}})
		}
	}
}

// TestP1002AskedAgain: what a list found out at one element must hold at the next one that asks it.
func TestP1002AskedAgain(t *testing.T) {
	l := bare(-1, 0, 0, 0, 0, 3, 5, 6, 7)
	l[0].Tag, l[6].Tag, l[1].Tag = "a", "a", "c"
	x := treeOf(t, l)
	for outer := api.CWithin; outer <= api.CAfter; outer++ {
		for inner := api.CWithin; inner <= api.CAfter; inner++ {
			for _, tag := range []string{"a", "b", "c", "x"} {
				within := row(2, tag, inner, "")
				for _, p := range []api.Pseudo{{Kind: api.SFirst}, {Kind: api.SNth, B: 2}, {Kind: api.SRoot}, {Kind: api.SIs, List: []api.Selector{row(2, "a", inner, "")}}} {
					for _, kind := range []int{api.SIs, api.SNot} {
						c := pseudo(kind, within)
						c.Pseudos = append(c.Pseudos, p)
						compare(t, l, x, []api.Selector{{Parts: []api.Part{{Compound: c}, {Comb: outer}}}, {Parts: []api.Part{part(0, ""), {Comb: inner, Compound: c}, {Comb: outer}}}})
					}
				}
			}
		}
	}
}

// TestP1003NotForEver: each step ahead may be taken in very many ways, and each of them may ask lists that step ahead, too.
func TestP1003NotForEver(t *testing.T) {
	for _, r := range []struct {
		l    page
		comb int
	}{{chain(257), api.CWithin}, {wide(api.MaxNodes), api.CAfter}} {
		x, last := treeOf(t, r.l), len(r.l)-1
		slow := row(50, "x", r.comb, "b")
		if Selector(x, last, slow) || !Selector(x, last, row(50, "b", r.comb, "b")) || !Selector(x, last, listed(api.SNot, slow)) {
			t.Errorf("the Comb %d", r.comb)
		}
		for n := range 7 {
			outer := row(50, "x", r.comb, "b")
			outer.Parts[40-n].Compound = pseudo(api.SIs, slow, listed(api.SNot))
			slow = outer
			if Selector(x, last, slow) {
				t.Errorf("the Comb %d, %d lists in each other", r.comb, n+1)
			}
			outer.Parts[0].Compound.Tag = "b"
			if !Selector(x, last, outer) {
				t.Errorf("the Comb %d, %d lists in each other, of b", r.comb, n+1)
			}
			outer.Parts[0].Compound.Tag = "x"
		}
	}
}

// TestP1003NotForEverMixed goes over a tree in which both ancestors and brothers are many.
func TestP1003NotForEverMixed(t *testing.T) {
	l := bare(make([]int, api.MaxNodes)...)
	for k := range l {
		l[k].Parent = k - 1 - (k-1)%16
	}
	l[0].Parent = -1
	x := treeOf(t, l)
	var s api.Selector
	for k := range 50 {
		s.Parts = append(s.Parts, part(1+k%4, "b"))
	}
	if !Selector(x, api.MaxNodes-1, s) {
		t.Error("50 parts of b")
	}
	s.Parts[0].Compound.Tag = "x"
	if Selector(x, api.MaxNodes-1, s) {
		t.Error("50 parts, of x and b")
	}
	for range 4 {
		in, out := pseudo(api.SIs, s), pseudo(api.SNot, s)
		s = api.Selector{Parts: []api.Part{{Compound: in}, {Comb: api.CAfter, Compound: out}, {Comb: api.CWithin}}}
		if Selector(x, api.MaxNodes-1, s) {
			t.Error("what is of none is of the first part")
		}
	}
}

// TestIteratorsAreLeft leaves the elements ahead behind each of them, and begins anew.
func TestIteratorsAreLeft(t *testing.T) {
	x := treeOf(t, bare(-1, 0, 1, 1, 1, 1))
	for _, r := range []struct {
		comb int
		want []int
	}{{api.CWithin, []int{1, 0}}, {api.CChild, []int{1}}, {api.CNext, []int{4}}, {api.CAfter, []int{4, 3, 2}}, {api.CNone, nil}, {5, nil}} {
		elements := ahead(x, 5, r.comb)
		if got := slices.Collect(elements); !slices.Equal(got, r.want) {
			t.Errorf("the Comb %d: %v", r.comb, got)
		}
		for n := range r.want {
			var got []int
			for e := range elements {
				if got = append(got, e); len(got) == n+1 {
					break
				}
			}
			if !slices.Equal(got, r.want[:n+1]) {
				t.Errorf("the Comb %d, %d of them: %v", r.comb, n+1, got)
			}
		}
	}
	s := api.Selector{Parts: []api.Part{{Compound: pseudo(api.SIs)}, {Compound: pseudo(api.SNot)}, {Compound: pseudo(99)}}}
	for n := range 2 {
		count := 0
		for range listsOf(s) {
			if count++; count > n {
				break
			}
		}
		if count != n+1 {
			t.Errorf("%d lists", count)
		}
	}
	if got := len(slices.Collect(listsOf(s))); got != 2 {
		t.Errorf("all lists: %d", got)
	}
}
