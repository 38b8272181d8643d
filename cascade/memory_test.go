package cascade

import (
	"reflect"
	"testing"

	"tapestrier/api"
	"tapestrier/bucket"
)

// roomy makes rules of which some match element 3 of family, with spare room behind each list.
func roomy() []api.Rule {
	compound := func() api.Compound {
		inner := []api.Selector{{Parts: []api.Part{{Compound: api.Compound{Tag: "c"}}, {Comb: 9}}[:1]}, {Parts: make([]api.Part, 1)}}
		return api.Compound{
			Tag:     "c",
			IDs:     []string{"i", "spare"}[:1],
			Classes: []string{"p", "q", "spare", "spare"}[:2],
			Attrs:   []api.Attr{{Name: "m", Op: api.AIs, Text: "1"}, {Name: "spare"}}[:1],
			Pseudos: []api.Pseudo{{Kind: api.SIs, List: inner[:1]}, {Kind: 99}}[:1],
		}
	}
	selectors := func() []api.Selector {
		l := []api.Selector{
			{Parts: []api.Part{{Compound: api.Compound{Tag: "x", Classes: []string{"y"}}}, {Comb: api.CWithin, Compound: compound()}, {Comb: 8}}[:2]},
			{Parts: []api.Part{{Compound: api.Compound{Tag: "b"}}, {Comb: api.CChild, Compound: compound()}, {Comb: 7}}[:2]},
			{Parts: []api.Part{{Compound: compound()}}},
			{Parts: []api.Part{{}}},
			{},
		}
		return l[:3]
	}
	return []api.Rule{
		{Sels: selectors(), Sets: []api.Set{low(0, 1), low(9, 1), high(1, 2), high(1, 3)}[:3]},
		{Sels: selectors()[:1], Sets: []api.Set{high(2, 3), low(2, 4)}},
		{Sels: selectors()[1:2], Sets: []api.Set{low(2, 5), low(2, 6)}[:1]},
		{Sels: []api.Selector{{Parts: make([]api.Part, 1)}}, Sets: []api.Set{high(0, 7)}},
	}[:3]
}

var roomyTable = table{px(1), px(2), px(5)}

// wide tells v with all lists up to the end of their room, in memory of their own.
func wide(v reflect.Value) reflect.Value {
	out := reflect.New(v.Type()).Elem()
	out.Set(v)
	switch v.Kind() {
	case reflect.Slice:
		if v.IsNil() {
			return out
		}
		out = reflect.MakeSlice(v.Type(), v.Cap(), v.Cap())
		for i := range v.Cap() {
			out.Index(i).Set(wide(v.Slice(0, v.Cap()).Index(i)))
		}
	case reflect.Struct:
		for i := range v.NumField() {
			out.Field(i).Set(wide(v.Field(i)))
		}
	}
	return out
}

func wantRoomy(t *testing.T, name string, l []api.Rule) {
	t.Helper()
	if got, want := wide(reflect.ValueOf(l)).Interface(), wide(reflect.ValueOf(roomy())).Interface(); !reflect.DeepEqual(got, want) {
		t.Errorf("P1503: the rules behind %s: %+v", name, got)
	}
}

// TestP1503HandedInStays: neither rules nor the map nor the filter is written into, spare room neither.
func TestP1503HandedInStays(t *testing.T) {
	x, l := family(t), roomy()
	wantRoomy(t, "nothing", l)
	if got := Winners(x, 3, l); got != roomyTable {
		t.Errorf("Winners: %v", got)
	}
	wantRoomy(t, "Winners", l)
	m, f := bucket.New(l), filterFor(x, 3)
	before := *f
	for range 2 {
		if got := Fast(x, 3, l, m, f); got != roomyTable {
			t.Errorf("Fast: %v", got)
		}
		wantRoomy(t, "Fast", l)
	}
	for e := -1; e <= x.Len(); e++ {
		Fast(x, e, l, m, f)
		Fast(x, e, l[:1], m, f)
		Winners(x, e, l[:1])
	}
	wantRoomy(t, "all", l)
	if *f != before || !reflect.DeepEqual(m, bucket.New(roomy())) {
		t.Error("P1503: the filter or the map has changed")
	}
	if all := x.All(); len(all) != 4 || !reflect.DeepEqual(x, family(t)) {
		t.Errorf("P1503: the tree has changed: %v", all)
	}
}

// TestP1503SameTold: the same is told each time, whatever was asked between; what is done to an answer is not seen in another.
func TestP1503SameTold(t *testing.T) {
	chance := newChance(1503)
	for range 100 {
		x, l := madeTree(t, chance), madeRules(chance)
		m := bucket.New(l)
		for e := range x.Len() {
			f := filterFor(x, e)
			first := Winners(x, e, l)
			for range 10 {
				other := madeRules(chance)
				Winners(x, e, other)
				Fast(x, e, other, bucket.New(other), f)
				again, fast := Winners(x, e, l), Fast(x, e, l, m, f)
				if again != first || fast != first {
					t.Fatalf("P1503: element %d: %v and %v, before %v", e, again, fast, first)
				}
				clear(again[:])
				clear(fast[:])
			}
		}
	}
}

// TestP1503AsItIsNow: nothing of rules or of a filter is kept: what they are at a call, that call knows.
func TestP1503AsItIsNow(t *testing.T) {
	x, l := family(t), []api.Rule{rule(t, "b > c", low(4, 1)), rule(t, "c", low(5, 1))}
	m, f := bucket.New(l), filterFor(x, 3)
	wantNow := func(want, fast table) {
		t.Helper()
		if got := Winners(x, 3, l); got != want {
			t.Errorf("P1503: Winners: %v, want %v", got, want)
		}
		if got := Fast(x, 3, l, m, f); got != fast {
			t.Errorf("P1503: Fast: %v, want %v", got, fast)
		}
	}
	wantNow(table{4: px(1), 5: px(1)}, table{4: px(1), 5: px(1)})
	l[1].Sets[0] = high(4, 2)
	wantNow(only(4, 2), only(4, 2))
	l[1].Sets[0].Important = false
	wantNow(only(4, 1), only(4, 1))
	*f = *filterFor(x, 0)
	wantNow(only(4, 1), only(4, 2))
	l[0].Sels[0].Parts[1].Compound.Tag = "x"
	wantNow(only(4, 2), only(4, 2))
}
