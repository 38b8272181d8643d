package dom

import (
	"math"
	"math/rand"
	"reflect"
	"slices"
	"strings"
	"testing"
	"unsafe"

	"tapestrier/api"
)

// made makes a tree of nodes that are one.
func made(t *testing.T, l []api.Node) *Tree {
	t.Helper()
	x, err := New(l)
	if err != api.OK || x == nil {
		t.Fatalf("P901: %s: %d", parentsOf(l), err)
	}
	return x
}

func TestP902Example(t *testing.T) {
	x := made(t, nodesOf(-1, 0))
	if got := x.Children(0); !slices.Equal(got, []int{1}) {
		t.Errorf("Children(0): %v", got)
	}
}

func TestP901NoNodes(t *testing.T) {
	for _, l := range [][]api.Node{nil, {}, make([]api.Node, 0, 3)} {
		wantTree(t, l)
	}
	var zero Tree
	wantNone(t, &zero)
	if zero.Len() != 0 || len(zero.All()) != 0 {
		t.Errorf("a zero tree: %d, %v", zero.Len(), zero.All())
	}
}

func TestP901TooMany(t *testing.T) {
	rows := []struct {
		name string
		l    []api.Node
		want api.Errno
	}{
		{"wide", wide(api.MaxNodes), api.OK},
		{"wide, one more", wide(api.MaxNodes + 1), api.ErrLong},
		{"many more", wide(3 * api.MaxNodes), api.ErrLong},
		{"too many, and no root", make([]api.Node, api.MaxNodes+1), api.ErrLong},
		{"no root", make([]api.Node, api.MaxNodes), api.ErrDom},
		{"too many, and too deep", chain(api.MaxNodes + 1), api.ErrLong},
		{"too deep", chain(api.MaxNodes), api.ErrDeep},
		{"the last is wrong", append(wide(api.MaxNodes-1), api.Node{Parent: api.MaxNodes - 1}), api.ErrDom},
	}
	for _, r := range rows {
		if x, err := New(r.l); err != r.want || (x == nil) != (err != api.OK) {
			t.Errorf("%s: %d, want %d", r.name, err, r.want)
		}
	}
}

// wide makes a root, and n - 1 children of it.
func wide(n int) []api.Node {
	l := make([]api.Node, n)
	l[0].Parent = -1
	return l
}

func TestP901WrongParents(t *testing.T) {
	wrong := []int{-1, -2, 3, 4, math.MinInt, math.MaxInt, 1 << 32, 1<<32 + 1, -1 << 32}
	for _, p := range wrong {
		if x, err := New(nodesOf(-1, 0, 1, p, 0)); err != api.ErrDom || x != nil {
			t.Errorf("a parent %d of the fourth: %d", p, err)
		}
	}
	for _, p := range []int{0, 1, -2, 2, math.MinInt, math.MaxInt, 1<<32 - 1} {
		if x, err := New(nodesOf(p, 0)); err != api.ErrDom || x != nil {
			t.Errorf("a parent %d of the first: %d", p, err)
		}
	}
	for _, p := range []int{0, 1, 2} {
		wantTree(t, nodesOf(-1, 0, 1, p, 0))
	}
}

func TestP901TooDeep(t *testing.T) {
	wrong, fine := api.Node{Parent: -1}, api.Node{}
	rows := []struct {
		name string
		l    []api.Node
		want api.Errno
	}{
		{"as deep as can be", chain(257), api.OK},
		{"one deeper", chain(258), api.ErrDeep},
		{"a second child at the bottom", append(chain(257), api.Node{Parent: 255}), api.OK},
		{"a child of the deepest, later on", append(chain(257), fine, api.Node{Parent: 256}), api.ErrDeep},
		{"too deep ahead of a wrong one", append(chain(258), wrong), api.ErrDeep},
		{"too deep behind a wrong one", append(chain(257), wrong, api.Node{Parent: 256}), api.ErrDom},
		{"a fault at once", append(nodesOf(-1, 7), chain(300)...), api.ErrDom},
		{"a parent that is too deep", chain(259), api.ErrDeep},
	}
	for _, r := range rows {
		if x, err := New(r.l); err != r.want || (x == nil) != (err != api.OK) || refErrno(r.l) != r.want {
			t.Errorf("%s: %d, want %d", r.name, err, r.want)
		}
	}
	x := made(t, chain(257))
	if x.Depth(256) != api.MaxDepth || x.Depth(0) != 0 {
		t.Errorf("Depth: %d, %d", x.Depth(256), x.Depth(0))
	}
}

// TestP901AllShortRows goes through all rows of parents, right and wrong, of up to five nodes.
func TestP901AllShortRows(t *testing.T) {
	for n := range 6 {
		row := make([]int, n)
		for k := range row {
			row[k] = -2
		}
		for more := true; more; {
			wantTree(t, nodesOf(row...))
			more = false
			for k := range row {
				if row[k]++; row[k] <= n {
					more = true
					break
				}
				row[k] = -2
			}
		}
	}
}

// TestP902AllSmallTrees goes through all trees of up to seven elements.
func TestP902AllSmallTrees(t *testing.T) {
	var grow func(row []int)
	grow = func(row []int) {
		wantTree(t, nodesOf(row...))
		if len(row) == 7 {
			return
		}
		for p := range row {
			grow(append(row[:len(row):len(row)], p))
		}
	}
	grow([]int{-1})
}

func TestP902TreesByChance(t *testing.T) {
	chance := rand.New(rand.NewSource(9))
	for round := range 300 {
		l := nodesOf(-1)
		for n := 1 + chance.Intn(200); len(l) < n; {
			p := chance.Intn(len(l))
			if round%3 == 0 {
				p = len(l) - 1 - chance.Intn(min(len(l), 3))
			}
			l = append(l, api.Node{Parent: p})
		}
		if round%5 == 0 {
			l[chance.Intn(len(l))].Parent = chance.Intn(len(l)+2) - 2
		}
		wantTree(t, l)
	}
}

func TestP902GreatTrees(t *testing.T) {
	comb := chain(257)
	for len(comb) < api.MaxNodes {
		comb = append(comb, api.Node{Parent: len(comb) % 256})
	}
	for _, l := range [][]api.Node{wide(api.MaxNodes), comb} {
		x := made(t, l)
		if x.Len() != api.MaxNodes || !slices.Equal(x.All(), refAll(l, 0)) {
			t.Errorf("P902: Len %d, All of %d", x.Len(), len(x.All()))
		}
		for _, e := range []int{0, 1, 255, 256, 257, 300, 4094, 4095} {
			wantElement(t, x, l, e)
		}
		wantNone(t, x)
	}
}

func TestP902Nodes(t *testing.T) {
	l := []api.Node{
		{Parent: -1, Tag: "HTML", ID: "Top", Classes: []string{"One", "TWO", "One", ""}, Attrs: []api.Pair{{Name: "HREF", Text: "UP/Down"}, {Name: "href", Text: ""}, {Name: "", Text: "N"}}},
		{Parent: 0, Tag: "ÄÉ-Z@[`{09aZ\xff\xc3A\x00", ID: " Id ", Attrs: []api.Pair{{Name: "DATA-Ä\xffQ", Text: "Ä\xffQ"}}},
		{Parent: 0},
		{Parent: 1, Classes: []string{}, Attrs: []api.Pair{}},
	}
	x := made(t, l)
	want := []api.Node{
		{Parent: -1, Tag: "html", ID: "Top", Classes: []string{"One", "TWO", "One", ""}, Attrs: []api.Pair{{Name: "href", Text: "UP/Down"}, {Name: "href", Text: ""}, {Name: "", Text: "N"}}},
		{Parent: 0, Tag: "ÄÉ-z@[`{09az\xff\xc3a\x00", ID: " Id ", Attrs: []api.Pair{{Name: "data-Ä\xffq", Text: "Ä\xffQ"}}},
		{Parent: 0},
		{Parent: 1},
	}
	for e, w := range want {
		wantNode(t, x, e, w)
	}
}

// wantNode asks for the node of e.
func wantNode(t *testing.T, x *Tree, e int, w api.Node) {
	t.Helper()
	n := x.Node(e)
	if n.Parent != w.Parent || n.Tag != w.Tag || n.ID != w.ID || !slices.Equal(n.Classes, w.Classes) || !slices.Equal(n.Attrs, w.Attrs) {
		t.Errorf("Node(%d): %+v, want %+v", e, n, w)
	}
}

// rich makes nodes that have all that a node may have, with spare room behind each list.
func rich() []api.Node {
	classes := []string{"A", "B", "spare", "spare"}
	attrs := []api.Pair{{Name: "K", Text: "V"}, {Name: "L", Text: "W"}, {Name: "Spare", Text: "S"}}
	l := []api.Node{
		{Parent: -1, Tag: "Root", ID: "R", Classes: classes[:2], Attrs: attrs[:2]},
		{Parent: 0, Tag: "Kid", ID: "K", Classes: classes[1:2], Attrs: attrs[:1]},
		{Parent: 0, Tag: "Kid", ID: "K", Classes: classes[1:2], Attrs: attrs[:1]},
		{Parent: 7, Tag: "Spare"},
	}
	return l[:3]
}

func TestP903HandedInStays(t *testing.T) {
	l := rich()
	made(t, l)
	if want := rich(); !reflect.DeepEqual(l[:4], want[:4]) {
		t.Errorf("the nodes behind New: %+v", l[:4])
	}
	if want := rich(); !reflect.DeepEqual(l[0].Classes[:4], want[0].Classes[:4]) || !reflect.DeepEqual(l[0].Attrs[:3], want[0].Attrs[:3]) {
		t.Errorf("spare room behind New: %v, %v", l[0].Classes[:4], l[0].Attrs[:3])
	}
}

func TestP903HandedInIsNotKept(t *testing.T) {
	l := rich()
	x := made(t, l)
	spoil(l[0])
	spoil(l[1])
	for k := range l {
		l[k] = api.Node{Parent: 9, Tag: "spoilt", ID: "spoilt"}
	}
	wantRich(t, x)
}

// spoil writes into all lists of n, up to the end of their room.
func spoil(n api.Node) {
	for k := range n.Classes[:cap(n.Classes)] {
		n.Classes[:cap(n.Classes)][k] = "spoilt"
	}
	for k := range n.Attrs[:cap(n.Attrs)] {
		n.Attrs[:cap(n.Attrs)][k] = api.Pair{Name: "spoilt", Text: "spoilt"}
	}
}

// wantRich asks whether x is the tree of rich.
func wantRich(t *testing.T, x *Tree) {
	t.Helper()
	wantNode(t, x, 0, api.Node{Parent: -1, Tag: "root", ID: "R", Classes: []string{"A", "B"}, Attrs: []api.Pair{{Name: "k", Text: "V"}, {Name: "l", Text: "W"}}})
	for _, e := range []int{1, 2} {
		wantNode(t, x, e, api.Node{Parent: 0, Tag: "kid", ID: "K", Classes: []string{"B"}, Attrs: []api.Pair{{Name: "k", Text: "V"}}})
	}
	if x.Len() != 3 || !slices.Equal(x.All(), []int{0, 1, 2}) || !slices.Equal(x.Children(0), []int{1, 2}) {
		t.Errorf("Len %d, All %v, Children(0) %v", x.Len(), x.All(), x.Children(0))
	}
	for e, w := range []struct{ parent, depth, place, before int }{{-1, 0, 1, -1}, {0, 1, 1, -1}, {0, 1, 2, 1}} {
		if x.Parent(e) != w.parent || x.Depth(e) != w.depth || x.Place(e) != w.place || x.Before(e) != w.before {
			t.Errorf("element %d: %d, %d, %d, %d", e, x.Parent(e), x.Depth(e), x.Place(e), x.Before(e))
		}
	}
}

func TestP903AnswersAreNew(t *testing.T) {
	x := made(t, rich())
	for range 2 {
		for e := range 3 {
			one, other := x.Node(e), x.Node(e)
			spoil(one)
			if slices.Contains(other.Classes, "spoilt") || slices.Contains(other.Attrs, api.Pair{Name: "spoilt", Text: "spoilt"}) {
				t.Errorf("two answers of Node(%d) share a list", e)
			}
			wantRich(t, x)
		}
		for _, ask := range []func() []int{x.All, func() []int { return x.Children(0) }, func() []int { return x.Children(1) }} {
			one, other := ask(), slices.Clone(ask())
			again := ask()
			for k := range one[:cap(one)] {
				one[:cap(one)][k] = 77
			}
			if !slices.Equal(again, other) {
				t.Errorf("two answers share a list: %v", again)
			}
			wantRich(t, x)
		}
	}
}

func TestP903TreesHaveNothingInCommon(t *testing.T) {
	l := rich()
	x, other := made(t, l), made(t, l)
	for e := range 3 {
		spoil(x.Node(e))
	}
	made(t, append(l, api.Node{Parent: 1}))
	if bad, err := New(append(l, api.Node{Parent: 9})); bad != nil || err != api.ErrDom {
		t.Errorf("New of a wrong one: %d", err)
	}
	wantRich(t, x)
	wantRich(t, other)
}

// TestP903TextsAreNotKept: a short name does not hold the long text that it was cut from.
func TestP903TextsAreNotKept(t *testing.T) {
	long := strings.Repeat("abcd", 100)
	x := made(t, []api.Node{{Parent: -1, Tag: long[:20], ID: long[20:40], Classes: []string{long[40:60]}, Attrs: []api.Pair{{Name: long[60:80], Text: long[80:]}}}})
	n := x.Node(0)
	for _, s := range []string{n.Tag, n.ID, n.Classes[0], n.Attrs[0].Name, n.Attrs[0].Text} {
		at, from := uintptr(unsafe.Pointer(unsafe.StringData(s))), uintptr(unsafe.Pointer(unsafe.StringData(long)))
		if at >= from && at < from+uintptr(len(long)) {
			t.Errorf("%q lies within what was handed in", s)
		}
	}
}

// TestIteratorsAreLeft leaves each iterator behind each of its elements, and begins it anew.
func TestIteratorsAreLeft(t *testing.T) {
	x := made(t, nodesOf(-1, 0, 1, 0, 1, 2))
	ordered, upward := x.ordered(), x.upward(5)
	for range 2 {
		for n := range 6 {
			if got := firstOf(n+1, ordered); !slices.Equal(got, []int{0, 1, 2, 5, 4, 3}[:n+1]) {
				t.Errorf("ordered, %d of it: %v", n+1, got)
			}
		}
		for n := range 4 {
			if got := firstOf(n+1, upward); !slices.Equal(got, []int{5, 2, 1, 0}[:n+1]) {
				t.Errorf("upward, %d of it: %v", n+1, got)
			}
		}
	}
}

// firstOf tells the first n elements that an iterator tells.
func firstOf(n int, elements func(func(int) bool)) []int {
	var out []int
	for e := range elements {
		if out = append(out, e); len(out) == n {
			break
		}
	}
	return out
}
