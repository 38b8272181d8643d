package reval

import (
	"cmp"
	"reflect"
	"slices"
	"strings"
	"testing"
	"unsafe"

	"tapestrier/api"
)

// endless makes a selector whose list has that selector in it.
func endless() api.Selector {
	l := []api.Selector{listed(api.SNot)}
	l[0].Parts[0].Compound.Pseudos[0].List = l
	return l[0]
}

// roomy makes rules with spare room behind each list, and texts of memory of their own.
func roomy() []api.Rule {
	own := strings.Clone
	compound := func(list []api.Selector) api.Compound {
		return api.Compound{
			Tag:     own("tag"),
			IDs:     []string{own("first"), own("spare")}[:1],
			Classes: []string{own("some"), own("other"), own("spare")}[:2],
			Attrs:   []api.Attr{{Name: own("name"), Op: api.AIs, Text: own("text")}, {Name: own("spare")}}[:1],
			Pseudos: []api.Pseudo{{Kind: api.SIs, List: list}, {Kind: api.SNth, A: 1}, {Kind: 99}}[:2],
		}
	}
	selectors := func(list []api.Selector) []api.Selector {
		var out []api.Selector
		for range 3 {
			out = append(out, api.Selector{Parts: []api.Part{{Compound: compound(list)}, {Comb: api.CNext, Compound: compound(nil)}, {Comb: 9}}[:2]})
		}
		return out[:2]
	}
	return []api.Rule{
		{Sels: selectors(selectors(selectors(nil))), Sets: []api.Set{{Prop: 1}, {Prop: 2}}[:1]},
		{Sels: selectors(nil)},
		{Sels: selectors(nil)},
	}[:2]
}

// span is where something lies in memory.
type span struct{ from, to uintptr }

// memory tells where all lie that v points to, spare room too; where something lies twice, it is told twice.
func memory(v reflect.Value) []span {
	var out []span
	switch v.Kind() {
	case reflect.String:
		if s := v.String(); s != "" {
			from := uintptr(unsafe.Pointer(unsafe.StringData(s)))
			out = append(out, span{from, from + uintptr(len(s))})
		}
	case reflect.Slice:
		if v.Cap() == 0 {
			return nil
		}
		out = append(out, span{v.Pointer(), v.Pointer() + uintptr(v.Cap())*v.Type().Elem().Size()})
		v = v.Slice(0, v.Cap())
		for i := range v.Len() {
			out = append(out, memory(v.Index(i))...)
		}
	case reflect.Struct:
		for i := range v.NumField() {
			out = append(out, memory(v.Field(i))...)
		}
	}
	return out
}

// wantApart asks that of what is told no two lie in the same memory, nor one where one of the others does.
func wantApart(t *testing.T, name string, told any, others ...any) {
	t.Helper()
	own := memory(reflect.ValueOf(told))
	slices.SortFunc(own, func(a, b span) int { return cmp.Compare(a.from, b.from) })
	for i := range len(own) - 1 {
		if own[i].to > own[i+1].from {
			t.Errorf("%s: two of %d lie in the same memory", name, len(own))
			return
		}
	}
	for _, x := range others {
		for _, one := range memory(reflect.ValueOf(x)) {
			// Those that end behind where this one begins: the first of them is the only one to ask.
			i, _ := slices.BinarySearchFunc(own, one.from+1, func(a span, from uintptr) int { return cmp.Compare(a.to, from) })
			if i < len(own) && own[i].from < one.to {
				t.Errorf("%s: one of %d lies in the memory of another thing", name, len(own))
				return
			}
		}
	}
}

// wide tells the rules with all lists up to the end of their room, in memory of their own.
func wide(v reflect.Value) reflect.Value {
	out := reflect.New(v.Type()).Elem()
	out.Set(v)
	switch v.Kind() {
	case reflect.Slice:
		if v.IsNil() {
			return out
		}
		out = reflect.MakeSlice(v.Type(), v.Cap(), v.Cap())
		for i := range v.Cap() {
			out.Index(i).Set(wide(v.Slice(0, v.Cap()).Index(i)))
		}
	case reflect.Struct:
		for i := range v.NumField() {
			out.Field(i).Set(wide(v.Field(i)))
		}
	}
	return out
}

func wantSame(t *testing.T, name string, got, want any) {
	t.Helper()
	if !reflect.DeepEqual(wide(reflect.ValueOf(got)).Interface(), wide(reflect.ValueOf(want)).Interface()) {
		t.Errorf("%s: %+v", name, got)
	}
}

// spoil writes into all that can be written into, spare room too.
func spoil(v reflect.Value) {
	switch v.Kind() {
	case reflect.String:
		v.SetString("spoilt")
	case reflect.Int:
		v.SetInt(-7)
	case reflect.Slice:
		v = v.Slice(0, v.Cap())
		for i := range v.Len() {
			spoil(v.Index(i))
		}
	case reflect.Struct:
		for i := range v.NumField() {
			spoil(v.Field(i))
		}
	}
}

func TestP1402HandedInStays(t *testing.T) {
	l := roomy()
	if got := List(l); len(got) != 4 {
		t.Errorf("List: %d", len(got))
	}
	wantSame(t, "the rules behind List", l, roomy())
	x := treeOf(t, api.Node{Parent: -1, Tag: "tag"})
	for i := range l {
		Bits(x, 0, l[i].Sels)
		for _, s := range l[i].Sels {
			wantNeeds(t, "a roomy one", s, true)
		}
	}
	wantSame(t, "the rules behind Bits and Needs", l, roomy())
}

// TestP1402NotKept: what is written into the rules behind List changes nothing in what was told.
func TestP1402NotKept(t *testing.T) {
	l := roomy()
	got := List(l)
	spoil(reflect.ValueOf(l))
	want := roomy()
	wantList(t, got, slices.Concat(want[0].Sels, want[1].Sels))
	wantList(t, List(roomy()), got)
}

// TestP1402AnswersAreNew: what is told lies nowhere where what was handed in does, nor where another answer does, nor in another of its own lists.
func TestP1402AnswersAreNew(t *testing.T) {
	l := roomy()
	one, other := List(l), List(l)
	wantApart(t, "what is told", [][]api.Selector{one, other}, l)
	spoil(reflect.ValueOf(one))
	wantSame(t, "the rules", l, roomy())
	want := roomy()
	wantList(t, other, slices.Concat(want[0].Sels, want[1].Sels))
}

// TestP1402SharedBefore: lists that were handed in as one are told as several, each as it stands.
func TestP1402SharedBefore(t *testing.T) {
	inner := []api.Selector{listed(api.SNot, odd(), odd()), odd()}
	shared := []api.Selector{listed(api.SIs, inner...), {}, listed(api.SNot, inner[:1]...)}
	c := api.Compound{Pseudos: []api.Pseudo{{Kind: api.SIs, List: shared}, {Kind: api.SNot, List: shared[:1]}, {Kind: api.SNot, List: shared}, {Kind: 99, List: shared[1:]}}}
	s := api.Selector{Parts: []api.Part{{Compound: c}, {Comb: api.CNext, Compound: c}}}
	rules := []api.Rule{{Sels: []api.Selector{s, s}}, {Sels: shared}, {Sels: inner}}
	want := []api.Selector{s, s, shared[0], shared[2], inner[0], inner[1]}
	got := List(rules)
	wantList(t, got, want)
	wantApart(t, "what is told", got, rules)
}

// TestP1402EmptyLists: lists without anything are told so, and their spare room is left alone.
func TestP1402EmptyLists(t *testing.T) {
	room := []string{"spare"}
	held := []api.Selector{{}}
	s := one(api.Compound{IDs: room[:0], Classes: []string{}, Attrs: []api.Attr{}, Pseudos: []api.Pseudo{{List: held[:0]}, {List: []api.Selector{}}, {}}})
	got := List([]api.Rule{{Sels: []api.Selector{s}}})
	wantList(t, got, []api.Selector{s})
	wantApart(t, "what is told", got, room, held)
	c := &got[0].Parts[0].Compound
	c.IDs, c.Pseudos[0].List = append(c.IDs, "new"), append(c.Pseudos[0].List, odd())
	if room[0] != "spare" || held[0].Parts != nil {
		t.Error("spare room was written into")
	}
}

func TestP1402BitsAreNew(t *testing.T) {
	x := treeOf(t, api.Node{Parent: -1, Tag: "a"})
	l := read(t, "a, b, :root")
	one, other := Bits(x, 0, l), Bits(x, 0, l)
	wantApart(t, "two answers", [][]bool{one, other})
	clear(one[:cap(one)])
	wantBits(t, x, 0, l, other...)
	wantBits(t, x, 0, l, true, false, true)
}

// TestP1402VeryDeep: no depth of lists is too much, neither to be told nor to be asked.
func TestP1402VeryDeep(t *testing.T) {
	const depth = 1_000_000
	s := nested(depth, api.SIs, one(api.Compound{Tag: "deepest"}))
	got := List([]api.Rule{{Sels: []api.Selector{s}}})
	if len(got) != 1 {
		t.Fatalf("List: %d", len(got))
	}
	told := got[0]
	for k := range depth {
		p, q := s.Parts[0].Compound.Pseudos, told.Parts[0].Compound.Pseudos
		if len(told.Parts) != 1 || len(q) != 1 || len(q[0].List) != 1 || q[0].Kind != api.SIs || &p[0] == &q[0] || &p[0].List[0] == &q[0].List[0] {
			t.Fatalf("at %d: %+v", k, told.Parts[0].Comb)
		}
		s, told = p[0].List[0], q[0].List[0]
	}
	if !reflect.DeepEqual(told, s) {
		t.Errorf("at the end: %+v", told)
	}
	wantBits(t, treeOf(t, api.Node{Parent: -1, Tag: "deepest"}), 0, got, false)
}

// TestP1402Endless: a list that lies in itself is told as one that does, of memory of its own.
func TestP1402Endless(t *testing.T) {
	s := endless()
	got := List([]api.Rule{{Sels: []api.Selector{s, read(t, "[a]")[0], s}}})
	if len(got) != 3 || !reflect.DeepEqual(got[0], s) || !reflect.DeepEqual(got[2], s) {
		t.Fatalf("List: %d", len(got))
	}
	old, one, other := &s, &got[0], &got[2]
	for range 1000 {
		old, one, other = &old.Parts[0].Compound.Pseudos[0].List[0], &one.Parts[0].Compound.Pseudos[0].List[0], &other.Parts[0].Compound.Pseudos[0].List[0]
		if old == one || old == other || one == other {
			t.Fatal("a list is shared")
		}
	}
}

// TestP1402ManyEndless: lists that all lie in each other, so that there are more ways through them than can be gone.
func TestP1402ManyEndless(t *testing.T) {
	const n = 40
	lists := make([][]api.Selector, n)
	for k := range lists {
		lists[k] = []api.Selector{one(api.Compound{Tag: string(rune('A' + k)), Pseudos: make([]api.Pseudo, n)})}
	}
	for _, l := range lists {
		for k := range lists {
			l[0].Parts[0].Compound.Pseudos[k] = api.Pseudo{Kind: api.SIs, A: k, List: lists[k]}
		}
	}
	told := List([]api.Rule{{Sels: lists[3]}})[0]
	for k := range 10_000 {
		next := k * k % n
		told = told.Parts[0].Compound.Pseudos[next].List[0]
		if got := told.Parts[0].Compound; got.Tag != string(rune('A'+next)) || len(got.Pseudos) != n || &told.Parts[0] == &lists[next][0].Parts[0] {
			t.Fatalf("at %d: %q", k, got.Tag)
		}
	}
}

// TestP1402SameTold: the same is told each time, whatever was asked between.
func TestP1402SameTold(t *testing.T) {
	l := roomy()
	x := treeOf(t, api.Node{Parent: -1, Tag: "tag", ID: "first", Classes: []string{"some", "other"}}, api.Node{Parent: 0})
	told, bits := List(l), Bits(x, 0, l[0].Sels)
	for range 20 {
		List([]api.Rule{{Sels: []api.Selector{endless(), odd()}}})
		Bits(x, 1, []api.Selector{odd(), endless()})
		wantList(t, List(l), told)
		wantBits(t, x, 0, l[0].Sels, bits...)
	}
}

// TestTwins tries the map of copies of lists of another kind.
func TestTwins(t *testing.T) {
	m := twins[int]{}
	l := []int{1, 2, 3}
	twin := m.add(l)
	if got, ok := m.of(l); !ok || &got[0] != &twin[0] || &twin[0] == &l[0] || !slices.Equal(twin, l) {
		t.Errorf("of the list: %v, %v", got, ok)
	}
	for _, other := range [][]int{l[:2], l[1:], {1, 2, 3}} {
		if got, ok := m.of(other); ok || got != nil {
			t.Errorf("of another list: %v, %v", got, ok)
		}
	}
	m.add(l[:2])
	m.drop(l)
	if _, ok := m.of(l); ok || len(m) != 1 {
		t.Errorf("of a list that was dropped: %d are kept", len(m))
	}
}
