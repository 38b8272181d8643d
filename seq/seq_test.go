package seq

import (
	"bytes"
	"fmt"
	"slices"
	"strings"
	"testing"

	"tapestrier/api"
	"tapestrier/compute"
	"tapestrier/dom"
	"tapestrier/sel"
)

// treeOf makes a tree of nodes that are one.
func treeOf(t *testing.T, l []api.Node) *dom.Tree {
	t.Helper()
	x, err := dom.New(l)
	if err != api.OK {
		t.Fatalf("no tree: %d", err)
	}
	return x
}

// below makes nodes of these parents, each of tag b, with its number as its ID behind an e.
func below(parents ...int) []api.Node {
	l := make([]api.Node, len(parents))
	for k, p := range parents {
		l[k] = api.Node{Parent: p, Tag: "b", ID: nameOf(k)}
	}
	return l
}

// nameOf tells the ID of element k: an e, and k in letters from a to j for 0 to 9.
func nameOf(k int) string {
	if k < 10 {
		return "e" + string(rune('a'+k))
	}
	return nameOf(k/10) + string(rune('a'+k%10))
}

// chain makes n nodes, each the only child of the one ahead.
func chain(n int) []api.Node {
	parents := make([]int, n)
	for k := range parents {
		parents[k] = k - 1
	}
	return below(parents...)
}

// wide makes a root, and n - 1 children of it.
func wide(n int) []api.Node {
	return below(append([]int{-1}, make([]int, n-1)...)...)
}

// wantTable asks for a table of styles, and tells the first element whose style is another.
func wantTable(t *testing.T, name string, got, want []api.Style) {
	t.Helper()
	if len(got) != len(want) {
		t.Fatalf("P1701: %s: %d styles, want %d", name, len(got), len(want))
	}
	for e, s := range got {
		if s != want[e] {
			t.Fatalf("P1701: %s: element %d: %v, want %v", name, e, s, want[e])
		}
	}
}

// wantBoth asks for the table of both calls.
func wantBoth(t *testing.T, css string, nodes []api.Node, want []api.Style) {
	t.Helper()
	short := css[:min(200, len(css))]
	wantTable(t, fmt.Sprintf("Run by %q", short), Run(treeOf(t, nodes), sel.Sheet([]byte(css))), want)
	got, err := Spec([]byte(css), nodes)
	if err != api.OK {
		t.Fatalf("P1701: Spec by %q: error %d", short, err)
	}
	wantTable(t, fmt.Sprintf("Spec by %q", short), got, want)
}

// roots tells n times the style in which nothing is set.
func roots(n int) []api.Style {
	return slices.Repeat([]api.Style{{0, 16000, 0, 2, -1, 0, 1000, 1 << 40}}, n)
}

func TestP1701Example(t *testing.T) {
	for _, nodes := range [][]api.Node{chain(1), chain(4), wide(4), below(-1, 0, 0, 1, 2, 1)} {
		wantBoth(t, "", nodes, roots(len(nodes)))
		for _, s := range Run(treeOf(t, nodes), nil) {
			if s != compute.Root() {
				t.Errorf("P1701: no rules: %v", s)
			}
		}
	}
}

// page is a root with two children, of which the first has two and the second one; the numbers are not in the tree's order.
var page = []api.Node{
	{Parent: -1, Tag: "HTML", ID: "top"},
	{Parent: 0, Tag: "ul", Classes: []string{"list"}},
	{Parent: 0, Tag: "p", Attrs: []api.Pair{{Name: "Lang", Text: "en-GB"}}},
	{Parent: 1, Tag: "li"},
	{Parent: 2, Tag: "b"},
	{Parent: 1, Tag: "li", Classes: []string{"last", "x"}},
}

const pageSheet = `
html { color: #0f0; font-size: 10px; width: 7px; margin: 1px }
.list { font-size: 200%; margin: 2em; z-index: 3 }
li { font-size: .5em; margin: inherit; width: 1em }
li + li { color: blue; z-index: inherit; width: inherit; opacity: .5 }
li.last { color: inherit !important; text-align: right }
#top > p[lang|=en] { display: none; width: 50%; text-align: center }
p b { margin: -10%; display: inherit; font-size: initial; opacity: 2 }
b:first-child:not(.x) { color: #010203; color: nocolor }
`

func TestP1701Page(t *testing.T) {
	wantBoth(t, pageSheet, page, []api.Style{
		{0x00ff00, 10000, 0, 2, 7000, 1000, 1000, 1 << 40},
		{0x00ff00, 20000, 0, 2, -1, 40000, 1000, 3000},
		{0x00ff00, 10000, 2, 0, -50002, 0, 1000, 1 << 40},
		{0x00ff00, 10000, 0, 2, 10000, 40000, 1000, 1 << 40},
		{0x010203, 16000, 2, 0, -1, 1<<40 - 10000, 1000, 1 << 40},
		{0x00ff00, 10000, 1, 2, -1, 40000, 500, 3000},
	})
}

// TestP1701Inherited: each property comes from the parent, not from the root, not from who is ahead.
func TestP1701Inherited(t *testing.T) {
	nodes := below(-1, 0, 0, 1, 2, 1, 5)
	css := "#ea{width:1px;color:#000001}#eb{width:2px;color:#000002}#ec{width:3px;color:#000003}#ee{width:inherit}#ef{width:inherit}#eg{width:inherit}"
	want := roots(len(nodes))
	for e, n := range []int{1, 2, 3, 2, 3, 2, 2} {
		want[e][api.PColor] = n
		if e != 3 {
			want[e][api.PWidth] = 1000 * n
		}
	}
	wantBoth(t, css, nodes, want)
}

// eachShape calls f with the parents of all trees of n elements.
func eachShape(n int, f func(parents []int)) {
	var grow func(parents []int)
	grow = func(parents []int) {
		if len(parents) == n {
			f(parents)
			return
		}
		for p := range parents {
			grow(append(slices.Clone(parents), p))
		}
	}
	grow([]int{-1})
}

// TestP1701Shapes: in trees of all shapes each element has what its own rule sets, and ems of its parent's font-size.
func TestP1701Shapes(t *testing.T) {
	const css = "#ea{font-size:2em;width:1px}#eb{font-size:3em;width:2px}#ec{font-size:5em;width:3px}#ed{font-size:7em;width:4px}#ee{font-size:.5em;width:5px}#ef{font-size:.1em;width:6px}"
	sizes := []int{2000, 3000, 5000, 7000, 500, 100}
	for n := 1; n <= len(sizes); n++ {
		eachShape(n, func(parents []int) {
			want := roots(n)
			for e, p := range parents {
				size := 16000
				if p >= 0 {
					size = want[p][api.PSize]
				}
				want[e][api.PSize], want[e][api.PWidth] = size*sizes[e]/1000, 1000*(e+1)
			}
			wantBoth(t, css, below(parents...), want)
		})
	}
}

func TestP1701NoElements(t *testing.T) {
	l := sel.Sheet([]byte("*{color:red}"))
	for name, x := range map[string]*dom.Tree{"a nil tree": nil, "a zero tree": {}, "a tree of no nodes": treeOf(t, nil)} {
		if got := Run(x, l); len(got) != 0 {
			t.Errorf("P1701: %s: %v", name, got)
		}
		if got := Run(x, nil); len(got) != 0 {
			t.Errorf("P1701: %s, no rules: %v", name, got)
		}
	}
	for _, nodes := range [][]api.Node{nil, {}} {
		if got, err := Spec([]byte("*{color:red}"), nodes); err != api.OK || len(got) != 0 {
			t.Errorf("P1701: Spec of no nodes: %v, %d", got, err)
		}
	}
}

// TestP1701Greatest: the deepest trees and the greatest ones.
func TestP1701Greatest(t *testing.T) {
	nodes := chain(api.MaxDepth + 1)
	want := roots(len(nodes))
	for e := range want {
		want[e][api.PColor], want[e][api.PMargin], want[e][api.PSize] = 255, 3000, api.MaxNum
		if e < 18 {
			want[e][api.PSize] = min(16000<<e, api.MaxNum)
		}
	}
	wantBoth(t, ":root{color:blue;margin:3px}b b{font-size:2em;margin:inherit}", nodes, want)

	want = roots(api.MaxNodes)
	for e := range want {
		want[e][api.PIndex] = 0
		if e%2 == 0 && e > 0 {
			want[e][api.PIndex] = 9000
		}
	}
	wantBoth(t, "b{z-index:0}b>b:nth-child(even){z-index:9}", wide(api.MaxNodes), want)
}

// wantFault asks for an error and nothing else, whatever the sheet.
func wantFault(t *testing.T, name string, nodes []api.Node, want api.Errno) {
	t.Helper()
	for _, css := range []string{"", "*{color:red}", "}{", strings.Repeat(" ", api.MaxSheet+1)} {
		if got, err := Spec([]byte(css), nodes); err != want || len(got) != 0 {
			t.Errorf("P1701: %s: %v, %d, want %d", name, got, err, want)
		}
	}
}

func TestP1701SpecFaults(t *testing.T) {
	wantFault(t, "no root", []api.Node{{}}, api.ErrDom)
	wantFault(t, "two roots", below(-1, -1), api.ErrDom)
	wantFault(t, "its own parent", below(-1, 0, 2), api.ErrDom)
	wantFault(t, "a parent that comes later", below(-1, 2, 0), api.ErrDom)
	wantFault(t, "too deep", chain(api.MaxDepth+2), api.ErrDeep)
	wantFault(t, "too many", wide(api.MaxNodes+1), api.ErrLong)
	wantFault(t, "too many, and no tree", make([]api.Node, api.MaxNodes+1), api.ErrLong)
	wantFault(t, "too deep, and then no tree", append(chain(api.MaxDepth+2), api.Node{Parent: -1}), api.ErrDeep)
	wantFault(t, "no tree, and then too deep", append(below(-1, 5), chain(api.MaxDepth+2)...), api.ErrDom)
}

// TestP1701SpecSheets: what the rules are is what sel.Sheet reads, of broken sheets and of too long ones, too.
func TestP1701SpecSheets(t *testing.T) {
	red := roots(2)
	for e := range red {
		red[e][api.PColor] = 0xff0000
	}
	full := append([]byte("*{color:red}"), bytes.Repeat([]byte{' '}, api.MaxSheet-12)...)
	for _, css := range []string{
		"*{color:red}", "B{COLOR:Red}", "b{color:red", "a{}b{width:x;color:#f00}@x{b{color:blue}}", "b{color:red}b..c{color:blue}",
		"*{color:red}\x00\xff{color:blue}", "b{color:red!important}b#ea{color:blue}", string(full),
	} {
		wantBoth(t, css, chain(2), red)
	}
	for _, css := range []string{"", "}", "b{color:r", "b,{color:red}", "b{colour:red}", "b{color:red blue}", "\x00", string(full) + " "} {
		wantBoth(t, css, chain(2), roots(2))
	}
}

// inItself makes a selector with a list in which it lies itself.
func inItself(kind int) api.Selector {
	s := api.Selector{Parts: make([]api.Part, 1)}
	s.Parts[0].Compound.Pseudos = []api.Pseudo{{Kind: kind, List: make([]api.Selector, 1)}}
	s.Parts[0].Compound.Pseudos[0].List[0] = s
	return s
}

// TestP1701OddRules: rules as no sheet has them set what can be set, and no more.
func TestP1701OddRules(t *testing.T) {
	everyone := []api.Selector{{Parts: make([]api.Part, 1)}}
	l := []api.Rule{
		{},
		{Sels: everyone},
		{Sets: []api.Set{{Prop: api.PWidth, Value: api.Value{Kind: api.VPx, N: 1}}}},
		{Sels: []api.Selector{{}}, Sets: []api.Set{{Prop: api.PWidth, Value: api.Value{Kind: api.VPx, N: 2}}}},
		{Sels: []api.Selector{inItself(api.SIs), inItself(api.SNot)}, Sets: []api.Set{{Prop: api.PWidth, Value: api.Value{Kind: api.VPx, N: 3}}}},
		{Sels: everyone, Sets: []api.Set{
			{Prop: -1, Value: api.Value{Kind: api.VPx, N: 4}},
			{Prop: api.Props, Value: api.Value{Kind: api.VPx, N: 5}},
			{Prop: 1 << 62, Value: api.Value{Kind: api.VPx, N: 5}},
			{Prop: api.PColor, Value: api.Value{Kind: 99, N: 6}},
			{Prop: api.PDisplay, Value: api.Value{Kind: api.VColor, N: 7}},
			{Prop: api.PMargin, Value: api.Value{Kind: api.VPx, N: 1 << 62}},
		}},
	}
	want := roots(3)
	for e := range want {
		want[e][api.PMargin] = api.MaxNum
	}
	wantTable(t, "odd rules", Run(treeOf(t, chain(3)), l), want)
}

// TestElementsLeft: the elements can be left at any of them, and be told again from the first on.
func TestElementsLeft(t *testing.T) {
	parents := []int{-1, 0, 0, 1, 2, 1}
	x := treeOf(t, below(parents...))
	for last := range parents {
		var got []int
		for e, parent := range elements(x) {
			if e != len(got) {
				t.Fatalf("element %d behind %v", e, got)
			}
			got = append(got, parent)
			if e == last {
				break
			}
		}
		if !slices.Equal(got, parents[:last+1]) {
			t.Errorf("left at %d: %v", last, got)
		}
	}
}
