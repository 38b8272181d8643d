package seq

import (
	"reflect"
	"slices"
	"testing"

	"tapestrier/api"
	"tapestrier/sel"
)

// whole tells v with all lists up to the end of their room, in memory of their own.
func whole(v reflect.Value) reflect.Value {
	out := reflect.New(v.Type()).Elem()
	out.Set(v)
	switch v.Kind() {
	case reflect.Slice:
		if v.IsNil() {
			return out
		}
		out = reflect.MakeSlice(v.Type(), v.Cap(), v.Cap())
		for i := range v.Cap() {
			out.Index(i).Set(whole(v.Slice(0, v.Cap()).Index(i)))
		}
	case reflect.Struct:
		for i := range v.NumField() {
			out.Field(i).Set(whole(v.Field(i)))
		}
	}
	return out
}

// wantSame asks whether two things are the same up to the end of all their lists' room.
func wantSame[T any](t *testing.T, name string, got, want T) {
	t.Helper()
	if g, w := whole(reflect.ValueOf(got)).Interface(), whole(reflect.ValueOf(want)).Interface(); !reflect.DeepEqual(g, w) {
		t.Errorf("P1702: %s: %+v, want %+v", name, g, w)
	}
}

// roomyNodes makes nodes with spare room behind each list.
func roomyNodes() []api.Node {
	return []api.Node{
		{Parent: -1, Tag: "A", ID: "I", Classes: []string{"p", "spare"}[:1], Attrs: []api.Pair{{Name: "M", Text: "1"}, {Name: "spare"}}[:1]},
		{Parent: 0, Tag: "B", Classes: []string{"q", "p", "spare"}[:2], Attrs: []api.Pair{{Name: "spare"}}[:0]},
		{Parent: 7, Tag: "spare"},
	}[:2]
}

// roomyRules makes rules with spare room behind each list.
func roomyRules() []api.Rule {
	compound := api.Compound{
		IDs:     []string{"I", "spare"}[:1],
		Classes: []string{"p", "spare"}[:1],
		Attrs:   []api.Attr{{Name: "m", Op: api.AIs, Text: "1"}, {Name: "spare"}}[:1],
		Pseudos: []api.Pseudo{{Kind: api.SIs, List: []api.Selector{{Parts: make([]api.Part, 1, 2)}, {}}[:1]}, {Kind: 99}}[:1],
	}
	sets := []api.Set{{Prop: 4, Value: api.Value{Kind: api.VPx, N: 1}}, {Prop: 9}, {Prop: 5, Value: api.Value{Kind: api.VPx, N: 2}}}
	return []api.Rule{
		{Sels: []api.Selector{{Parts: []api.Part{{Compound: compound}, {Comb: 9}}[:1]}, {Parts: make([]api.Part, 1)}}[:1], Sets: sets[:2]},
		{Sels: []api.Selector{{Parts: make([]api.Part, 1)}}, Sets: []api.Set{{Prop: 5, Value: api.Value{Kind: api.VPx, N: 3}}}},
		{Sels: []api.Selector{{Parts: make([]api.Part, 1)}}, Sets: sets[2:]},
	}[:2]
}

// roomyTable is what these nodes have by these rules.
var roomyTable = []api.Style{{0, 16000, 0, 2, 1, 3, 1000, 1 << 40}, {0, 16000, 0, 2, -1, 3, 1000, 1 << 40}}

// TestP1702HandedInStays: neither the tree nor the rules, the bytes, or the nodes are written into, spare room neither.
func TestP1702HandedInStays(t *testing.T) {
	x, l := treeOf(t, roomyNodes()), roomyRules()
	if got := Run(x, l); !slices.Equal(got, roomyTable) {
		t.Errorf("P1701: %v", got)
	}
	wantSame(t, "the rules", l, roomyRules())
	if !reflect.DeepEqual(x, treeOf(t, roomyNodes())) {
		t.Error("P1702: the tree has changed")
	}

	css := func() []byte { return []byte("*{margin:\r\n3px}\x00.p{width:1px}B{color:RED}spare{}")[:44] }
	// With the node in the spare room they are no tree.
	for count, want := range map[int]api.Errno{2: api.OK, 3: api.ErrDom} {
		b, nodes := css(), roomyNodes()[:count]
		if _, err := Spec(b, nodes); err != want {
			t.Errorf("P1701: %d nodes: %d", count, err)
		}
		wantSame(t, "the nodes", nodes, roomyNodes()[:count])
		wantSame(t, "the bytes", b, css())
	}
}

// TestP1702AsItIsNow: nothing is kept of what was handed in or answered: what it is at a call, that call knows.
func TestP1702AsItIsNow(t *testing.T) {
	x, l := treeOf(t, roomyNodes()), roomyRules()
	first := Run(x, l)
	l[1].Sets[0].Value.N = 7
	l[0].Sels[0].Parts[0].Compound.IDs[0] = "other"
	if !slices.Equal(first, roomyTable) {
		t.Errorf("P1702: an answer changes with the rules: %v", first)
	}
	want := roots(2)
	want[0][api.PMargin], want[1][api.PMargin] = 7, 7
	second := Run(x, l)
	if !slices.Equal(second, want) {
		t.Errorf("P1702: of other rules: %v", second)
	}
	clear(second[:cap(second)])
	if got := Run(x, l); !slices.Equal(got, want) {
		t.Errorf("P1702: behind an answer that is cleared: %v", got)
	}

	css, nodes := []byte("b{width:1px}"), chain(3)
	told, _ := Spec(css, nodes)
	css[0], css[8] = 'a', '4'
	nodes[1].Tag, nodes[2].Parent = "a", 0
	for e, s := range told {
		if s[api.PWidth] != 1000 {
			t.Errorf("P1702: an answer changes with what was handed in: %d: %v", e, s)
		}
	}
	again, _ := Spec(css, nodes)
	if len(again) != 3 || again[0][api.PWidth] != -1 || again[1][api.PWidth] != 4000 || again[2][api.PWidth] != -1 {
		t.Errorf("P1702: of other bytes and nodes: %v", again)
	}
}

// TestP1702SameTold: the same is told each time, whatever was asked between, errors too; answers share no memory.
func TestP1702SameTold(t *testing.T) {
	chance := newChance(1702)
	for range 300 {
		nodes, css := madeNodes(chance, 20), []byte(madeSheet(chance))
		x, l := treeOf(t, nodes), sel.Sheet(css)
		first := Run(x, l)
		kept := slices.Clone(first)
		for range 5 {
			Spec([]byte(madeSheet(chance)), madeNodes(chance, 20))
			Spec(css, below(-1, 5))
			Run(x, sel.Sheet([]byte(madeSheet(chance))))
			again := Run(x, l)
			told, err := Spec(css, nodes)
			if !slices.Equal(again, kept) || !slices.Equal(told, kept) || err != api.OK {
				t.Fatalf("P1702: %v and %v, before %v", again, told, kept)
			}
			clear(again[:cap(again)])
			clear(told[:cap(told)])
		}
		if !slices.Equal(first, kept) {
			t.Fatalf("P1702: an answer has changed: %v, before %v", first, kept)
		}
	}
}
