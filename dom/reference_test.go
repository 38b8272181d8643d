package dom

import (
	"fmt"
	"math"
	"slices"
	"testing"

	"tapestrier/api"
)

// nodesOf makes bare nodes of these parents.
func nodesOf(parents ...int) []api.Node {
	l := make([]api.Node, len(parents))
	for k, p := range parents {
		l[k].Parent = p
	}
	return l
}

// chain makes n nodes, each the only child of the one ahead.
func chain(n int) []api.Node {
	l := make([]api.Node, n)
	for k := range l {
		l[k].Parent = k - 1
	}
	return l
}

// refErrno is P901's sentence on faults, told from the nodes alone.
func refErrno(l []api.Node) api.Errno {
	if len(l) > 4096 {
		return api.ErrLong
	}
	for k, n := range l {
		if k == 0 && n.Parent != -1 || k > 0 && (n.Parent < 0 || n.Parent > k-1) {
			return api.ErrDom
		}
		if len(refAbove(l, k)) > 256 {
			return api.ErrDeep
		}
	}
	return api.OK
}

// refAbove tells the elements above e, from its parent on.
func refAbove(l []api.Node, e int) []int {
	var out []int
	for p := l[e].Parent; p != -1; p = l[p].Parent {
		out = append(out, p)
	}
	return out
}

// refChildren tells the nodes whose parent is e.
func refChildren(l []api.Node, e int) []int {
	var out []int
	for k, n := range l {
		if n.Parent == e {
			out = append(out, k)
		}
	}
	return out
}

// refAll tells e and all below it, in P902's order.
func refAll(l []api.Node, e int) []int {
	out := []int{e}
	for _, c := range refChildren(l, e) {
		out = append(out, refAll(l, c)...)
	}
	return out
}

// wantTree asks whether New and all that the tree tells are what the document says of the nodes l (bare ones).
func wantTree(t *testing.T, l []api.Node) {
	t.Helper()
	x, err := New(l)
	if want := refErrno(l); err != want || (x == nil) != (want != api.OK) {
		t.Errorf("P901: %v: %d, want %d; tree %v", parentsOf(l), err, want, x != nil)
		return
	}
	if x == nil {
		return
	}
	var all []int
	if len(l) > 0 {
		all = refAll(l, 0)
	}
	if x.Len() != len(l) || !slices.Equal(x.All(), all) {
		t.Errorf("P902: %v: Len %d, All %v, want %v", parentsOf(l), x.Len(), x.All(), all)
	}
	for e := range l {
		wantElement(t, x, l, e)
	}
	wantNone(t, x)
}

// wantElement asks whether what the tree tells of its element e is what the document says.
func wantElement(t *testing.T, x *Tree, l []api.Node, e int) {
	t.Helper()
	place, before, siblings := 1, -1, []int(nil)
	if p := l[e].Parent; p != -1 {
		siblings = refChildren(l, p)
		place = slices.Index(siblings, e) + 1
	}
	if place > 1 {
		before = siblings[place-2]
	}
	if x.Parent(e) != l[e].Parent || x.Node(e).Parent != l[e].Parent {
		t.Errorf("P902: %v: Parent(%d): %d, Node's %d", parentsOf(l), e, x.Parent(e), x.Node(e).Parent)
	}
	if got, want := x.Children(e), refChildren(l, e); !slices.Equal(got, want) {
		t.Errorf("P902: %v: Children(%d): %v, want %v", parentsOf(l), e, got, want)
	}
	if got, want := x.Depth(e), len(refAbove(l, e)); got != want {
		t.Errorf("P902: %v: Depth(%d): %d, want %d", parentsOf(l), e, got, want)
	}
	if got := x.Place(e); got != place {
		t.Errorf("P902: %v: Place(%d): %d, want %d", parentsOf(l), e, got, place)
	}
	if got := x.Before(e); got != before {
		t.Errorf("P902: %v: Before(%d): %d, want %d", parentsOf(l), e, got, before)
	}
}

// wantNone asks whether the tree tells nothing of elements that it has not.
func wantNone(t *testing.T, x *Tree) {
	t.Helper()
	for _, e := range []int{-1, -2, x.Len(), x.Len() + 1, api.MaxNodes, math.MinInt, math.MaxInt} {
		if e >= 0 && e < x.Len() {
			continue
		}
		n := x.Node(e)
		if n.Parent != 0 || n.Tag != "" || n.ID != "" || len(n.Classes) != 0 || len(n.Attrs) != 0 {
			t.Errorf("P902: Node(%d): %+v", e, n)
		}
		if x.Parent(e) != -1 || x.Before(e) != -1 || len(x.Children(e)) != 0 || x.Depth(e) != 0 || x.Place(e) != 0 {
			t.Errorf("P902: none %d: Parent %d, Before %d, Children %v, Depth %d, Place %d", e, x.Parent(e), x.Before(e), x.Children(e), x.Depth(e), x.Place(e))
		}
	}
}

// parentsOf tells the nodes' parents, of long lists only how long they are.
func parentsOf(l []api.Node) string {
	if len(l) > 50 {
		return fmt.Sprint(len(l), " nodes")
	}
	var out []int
	for _, n := range l {
		out = append(out, n.Parent)
	}
	return fmt.Sprint(out)
}
