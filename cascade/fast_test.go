package cascade

import (
	"slices"
	"testing"

	"tapestrier/api"
	"tapestrier/bloom"
	"tapestrier/bucket"
)

// TestP1502NoMap: of a nil map, a nil filter, or a nil tree, no rule is looked at.
func TestP1502NoMap(t *testing.T) {
	x := family(t)
	l := []api.Rule{rule(t, "*, c, .p, #i", low(4, 1), high(5, 2))}
	m, f := bucket.New(l), filterFor(x, 3)
	if got := Fast(x, 3, l, m, f); got == (table{}) {
		t.Errorf("with all of them: %v", got)
	}
	for e := -1; e <= x.Len(); e++ {
		for k, got := range []table{
			Fast(x, e, l, nil, f), Fast(x, e, l, m, nil), Fast(x, e, l, nil, nil), Fast(nil, e, l, m, f), Fast(nil, e, l, nil, nil),
			Fast(x, e, nil, nil, nil), Fast(x, e, nil, m, f), Fast(x, e, l, new(bucket.Map), f), Fast(x, e, l, bucket.New(nil), f),
		} {
			if got != (table{}) {
				t.Errorf("call %d of element %d: %v", k, e, got)
			}
		}
	}
}

// TestP1502OtherFilter: a selector of which the filter misses a name is not looked at; neither does it match nor does it weigh.
func TestP1502OtherFilter(t *testing.T) {
	x := family(t)
	l := []api.Rule{
		rule(t, ".p c", low(0, 1)),
		rule(t, "#r #i, c", low(1, 1)), rule(t, ".q", low(1, 2)),
		rule(t, "c", low(2, 2)), rule(t, "a c", low(2, 3)),
		rule(t, "a b > c", high(3, 1)), rule(t, "c", low(3, 2)),
		rule(t, "a > b ~ c, a:root > b:first-child > c", low(4, 1)),
		rule(t, "* c", low(5, 1)), rule(t, ":is(#r, .p) > c", low(6, 1)),
	}
	m := bucket.New(l)
	pushed := func(texts ...api.Node) *bloom.Filter {
		f := &bloom.Filter{}
		for _, n := range texts {
			f.Push(bloom.Of(n))
		}
		return f
	}
	tag := func(s string) api.Node { return api.Node{Tag: s} }
	for _, r := range []struct {
		name string
		f    *bloom.Filter
		want table
	}{
		{"the right one", filterFor(x, 3), table{px(1), px(1), px(3), px(1), px(1), px(1), px(1)}},
		{"an empty one", pushed(), table{1: px(2), 2: px(2), 3: px(2), 5: px(1), 6: px(1)}},
		{"one with the root alone", pushed(x.Node(0)), table{1: px(1), 2: px(3), 3: px(2), 5: px(1), 6: px(1)}},
		{"one with the parent alone", pushed(x.Node(1)), table{px(1), px(2), px(2), px(2), {}, px(1), px(1)}},
		{"one with a tag", pushed(tag("a")), table{1: px(2), 2: px(3), 3: px(2), 5: px(1), 6: px(1)}},
		{"one with both tags", pushed(tag("b"), tag("a")), table{1: px(2), 2: px(3), 3: px(1), 4: px(1), 5: px(1), 6: px(1)}},
		{"one with a class in the place of a tag", pushed(api.Node{ID: "p", Classes: []string{"a", "b", "r"}}), table{1: px(2), 2: px(2), 3: px(2), 5: px(1), 6: px(1)}},
		{"one with names of other elements, too", pushed(x.Node(0), x.Node(1), x.Node(2), x.Node(3), tag("y")), table{px(1), px(1), px(3), px(1), px(1), px(1), px(1)}},
	} {
		if got := Fast(x, 3, l, m, r.f); got != r.want {
			t.Errorf("%s: %v, want %v", r.name, got, r.want)
		}
		if got := plainFast(x, 3, l, m, r.f); got != r.want {
			t.Errorf("%s: the plain one: %v, want %v", r.name, got, r.want)
		}
	}
}

// TestP1502FullFilter: a filter that has all that can be leaves nothing out, so that what wins is right.
func TestP1502FullFilter(t *testing.T) {
	f := &bloom.Filter{}
	for h := range api.Counters {
		f.Push([]int{h, h << 10})
	}
	chance := newChance(1502)
	for range 500 {
		x, l := madeTree(t, chance), madeRules(chance)
		m := bucket.New(l)
		for e := -1; e <= x.Len(); e++ {
			if got, want := Fast(x, e, l, m, f), Winners(x, e, l); got != want {
				t.Fatalf("element %d: %v, want %v\n%+v", e, got, want, l)
			}
		}
	}
}

// TestP1502OtherMap: of a map of other rules, more or fewer, the call ends.
func TestP1502OtherMap(t *testing.T) {
	x := family(t)
	l := []api.Rule{rule(t, "c", low(4, 1)), rule(t, "#i", low(4, 2)), rule(t, "*", low(5, 3))}
	many := slices.Repeat(l, 1000)
	f := filterFor(x, 3)
	for n := range len(l) + 1 {
		for _, m := range []*bucket.Map{bucket.New(l), bucket.New(many), bucket.New(many[1:]), bucket.New(many[2999:]), bucket.New(l[:n])} {
			for e := -1; e <= x.Len(); e++ {
				Fast(x, e, l[:n], m, f)
				Fast(x, e, l[:n:n], m, new(bloom.Filter))
			}
		}
	}
	if got, want := Fast(x, 3, l[:1], bucket.New(l), f), only(4, 1); got != want {
		t.Errorf("fewer rules than the map knows: %v, want %v", got, want)
	}
}

// TestP1502Walk goes down a tree with one filter, as those do who style it: pushed on the way down, popped on the way up.
func TestP1502Walk(t *testing.T) {
	chance := newChance(15021)
	for range 300 {
		x, l := madeTree(t, chance), madeRules(chance)
		m, f := bucket.New(l), &bloom.Filter{}
		var walk func(e int)
		walk = func(e int) {
			if got, want := Fast(x, e, l, m, f), plainWinners(x, e, l); got != want {
				t.Fatalf("element %d: %v, want %v\n%+v", e, got, want, l)
			}
			f.Push(bloom.Of(x.Node(e)))
			for _, c := range x.Children(e) {
				walk(c)
			}
			f.Pop(bloom.Of(x.Node(e)))
		}
		walk(0)
	}
}

// TestP1502Deepest goes through the deepest tree that there is: counters come to be Full.
func TestP1502Deepest(t *testing.T) {
	var nodes []api.Node
	for k := range api.MaxDepth + 1 {
		nodes = append(nodes, api.Node{Parent: k - 1, Tag: []string{"a", "b", "c"}[k%3], ID: []string{"", "i"}[k/100%2], Classes: []string{"p", "p", []string{"q", "s"}[k%2]}})
	}
	x := treeOf(t, nodes...)
	l := []api.Rule{
		rule(t, "a b c", low(0, 1)), rule(t, "#i .s", low(1, 1)), rule(t, ".p", low(1, 2)), rule(t, "#i > a.q", high(2, 1)), rule(t, "#i > *", low(2, 2)),
		rule(t, ":not(:root) c ~ b, .q > .s > .q > b", low(3, 1)), rule(t, "*", low(3, 2), low(4, 3)), rule(t, "c > b", low(4, 4)), rule(t, "x .p", high(4, 5)),
	}
	m, f := bucket.New(l), &bloom.Filter{}
	for e := range x.Len() {
		if got, want := Fast(x, e, l, m, f), plainWinners(x, e, l); got != want {
			t.Fatalf("element %d: %v, want %v", e, got, want)
		}
		f.Push(bloom.Of(x.Node(e)))
	}
}

// TestP1502LookedAt: the rules that are looked at are those of the map, each with those selectors alone that the filter does not rule out.
func TestP1502LookedAt(t *testing.T) {
	x := family(t)
	l := []api.Rule{rule(t, "x, .y c", low(0, 1)), rule(t, "a .p, x, * , .y > .q", low(1, 1)), rule(t, "x"), rule(t, "b .p ~ c, .y ~ c")}
	f := filterFor(x, 3)
	places := bucket.New(l).For(x.Node(3))
	if !slices.Equal(places, []int{0, 1, 3}) {
		t.Fatalf("the places: %v", places)
	}
	var counts []int
	for r := range hopeful(l, places, f) {
		counts = append(counts, len(r.Sels))
		if len(r.Sets) != len(l[places[len(counts)-1]].Sets) {
			t.Errorf("rule %d: %v", len(counts)-1, r.Sets)
		}
	}
	if !slices.Equal(counts, []int{1, 3, 2}) {
		t.Errorf("how many selectors of each rule: %v", counts)
	}
}

// TestIteratorsAreLeft leaves each iterator behind each thing that it tells, and begins it anew.
func TestIteratorsAreLeft(t *testing.T) {
	x := family(t)
	l := []api.Rule{rule(t, "c", low(0, 1), low(9, 1), high(1, 2)), rule(t, "x", low(0, 3)), rule(t, ".p", low(2, 4)), rule(t, "#i", low(3, 5), low(-1, 1)), rule(t, "x")}
	rules := hopeful(l, []int{0, 2, 3, 4, 5, 6}, filterFor(x, 3))
	all := candidates(x, 3, rules)
	byWeight := tiers[float64, string]{}
	for k, s := range []string{"c", "a", "d", "b"} {
		byWeight.add([]float64{2.5, -1}[k%2], s)
	}
	for range 2 {
		for n := range 4 {
			if got := firstOf(n+1, rules); len(got) != n+1 || !slices.Equal(got[n].Sets, l[[]int{0, 2, 3, 4}[n]].Sets) {
				t.Errorf("%d rules: %+v", n+1, got)
			}
			if got := firstOf(n+1, byWeight.rising()); !slices.Equal(got, []string{"a", "b", "c", "d"}[:n+1]) {
				t.Errorf("%d that rise: %q", n+1, got)
			}
		}
		for n := range 3 {
			if got := firstOf(n+1, all); len(got) != n+1 || got[n].weight != []int{1, 256, 65536}[n] || !slices.Equal(got[n].sets, l[[]int{0, 2, 3}[n]].Sets) {
				t.Errorf("%d candidates: %+v", n+1, got)
			}
		}
	}
	if got := firstOf(1, tiers[int, int]{}.rising()); got != nil {
		t.Errorf("of none: %v", got)
	}
}

// firstOf tells the first n things that an iterator tells.
func firstOf[T any](n int, things func(func(T) bool)) []T {
	var out []T
	for x := range things {
		if out = append(out, x); len(out) == n {
			break
		}
	}
	return out
}
