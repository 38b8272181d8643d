package cascade

import (
	"math/rand"
	"slices"
	"testing"

	"tapestrier/api"
	"tapestrier/bloom"
	"tapestrier/bucket"
	"tapestrier/dom"
	"tapestrier/match"
	"tapestrier/weigh"
)

// claim is a Set, with all by which it may win.
type claim struct {
	set                 api.Set
	weight, rule, place int
}

// wins tells whether c wins over d: P1501 word by word.
func (c claim) wins(d claim) bool {
	if c.set.Important != d.set.Important {
		return c.set.Important
	}
	if c.weight != d.weight {
		return c.weight > d.weight
	}
	if c.rule != d.rule {
		return c.rule > d.rule
	}
	return c.place > d.place
}

// claimsOf tells all Sets of a property that the rules which match e have.
func claimsOf(x *dom.Tree, e int, l []api.Rule, prop int) []claim {
	var out []claim
	for i, r := range l {
		if !match.Any(x, e, r.Sels) {
			continue
		}
		weight, _ := weigh.Best(x, e, r.Sels)
		for k, s := range r.Sets {
			if s.Prop == prop {
				out = append(out, claim{s, weight, i, k})
			}
		}
	}
	return out
}

func plainWinners(x *dom.Tree, e int, l []api.Rule) table {
	var out table
	for prop := range out {
		all := claimsOf(x, e, l, prop)
		for _, c := range all {
			if !slices.ContainsFunc(all, func(d claim) bool { return d.wins(c) }) {
				out[prop] = c.set.Value
			}
		}
	}
	return out
}

// plainFast is P1502 word by word: rules and selectors that are not looked at are taken away. (The map is that of l.)
func plainFast(x *dom.Tree, e int, l []api.Rule, m *bucket.Map, f *bloom.Filter) table {
	told := m.For(x.Node(e))
	left := make([]api.Rule, len(l))
	for i, r := range l {
		if !slices.Contains(told, i) {
			continue
		}
		left[i].Sets = r.Sets
	selectors:
		for _, s := range r.Sels {
			for _, h := range bloom.Wants(s) {
				if !f.May(h) {
					continue selectors
				}
			}
			left[i].Sels = append(left[i].Sels, s)
		}
	}
	return plainWinners(x, e, left)
}

func newChance(seed int64) *rand.Rand { return rand.New(rand.NewSource(seed)) }

// oneOf tells one of these, by chance.
func oneOf[T any](chance *rand.Rand, l ...T) T { return l[chance.Intn(len(l))] }

// names makes some names, by chance.
func names(chance *rand.Rand, most int) []string {
	var out []string
	for range chance.Intn(most + 1) {
		out = append(out, oneOf(chance, "p", "p", "q", "q", "r", ""))
	}
	return out
}

// madeSelector makes a selector that may have so many lists in each other.
func madeSelector(chance *rand.Rand, depth int) api.Selector {
	var s api.Selector
	for k := range oneOf(chance, 0, 1, 1, 1, 1, 2, 2, 2, 3, 4) {
		c := api.Compound{Tag: oneOf(chance, "", "", "a", "b")}
		if chance.Intn(7) == 0 {
			c.IDs = names(chance, 2)
		}
		if chance.Intn(3) == 0 {
			c.Classes = names(chance, 2)
		}
		if chance.Intn(8) == 0 {
			c.Attrs = []api.Attr{{Name: oneOf(chance, "m", "n"), Op: chance.Intn(8) - 1, Text: oneOf(chance, "1", "")}}
		}
		for chance.Intn(6) == 0 {
			c.Pseudos = append(c.Pseudos, madePseudo(chance, depth))
		}
		p := api.Part{Compound: c}
		if k > 0 {
			p.Comb = oneOf(chance, api.CWithin, api.CWithin, api.CChild, api.CNext, api.CAfter, chance.Intn(7)-1)
		}
		s.Parts = append(s.Parts, p)
	}
	return s
}

func madePseudo(chance *rand.Rand, depth int) api.Pseudo {
	p := api.Pseudo{Kind: oneOf(chance, api.SNot, api.SIs, chance.Intn(10)), A: chance.Intn(5) - 2, B: chance.Intn(5) - 2}
	for k := 0; depth > 0 && k < chance.Intn(4); k++ {
		p.List = append(p.List, madeSelector(chance, depth-1))
	}
	return p
}

func madeSets(chance *rand.Rand) []api.Set {
	var out []api.Set
	for range chance.Intn(5) {
		s := api.Set{Prop: oneOf(chance, api.PWidth, api.PColor, chance.Intn(api.Props), chance.Intn(12)-2), Important: chance.Intn(5) == 0}
		s.Value = oneOf(chance, api.Value{Kind: chance.Intn(11) - 1, N: chance.Intn(1000)}, px(chance.Intn(1000)), px(chance.Intn(1000)), api.Value{})
		out = append(out, s)
	}
	return out
}

func madeRules(chance *rand.Rand) []api.Rule {
	var l []api.Rule
	for range chance.Intn(12) {
		var r api.Rule
		for range oneOf(chance, 0, 1, 1, 2, 3, 4) {
			r.Sels = append(r.Sels, madeSelector(chance, oneOf(chance, 1, 2, 3)))
		}
		r.Sets = madeSets(chance)
		l = append(l, r)
	}
	return l
}

func madeNode(chance *rand.Rand, parent int) api.Node {
	n := api.Node{Parent: parent, Tag: oneOf(chance, "a", "A", "b", "b", "c", ""), ID: oneOf(chance, "p", "q", "", "")}
	n.Classes = names(chance, 3)
	if chance.Intn(2) == 0 {
		n.Attrs = []api.Pair{{Name: oneOf(chance, "m", "N"), Text: oneOf(chance, "1", "2", "")}}
	}
	return n
}

// madeTree makes a tree, by chance.
func madeTree(t *testing.T, chance *rand.Rand) *dom.Tree {
	t.Helper()
	l := []api.Node{madeNode(chance, -1)}
	for k := range chance.Intn(12) {
		l = append(l, madeNode(chance, max(0, k-chance.Intn(4))))
	}
	return treeOf(t, l...)
}

// madeFilter makes a filter that knows names of some nodes, by chance.
func madeFilter(chance *rand.Rand) *bloom.Filter {
	f := &bloom.Filter{}
	for range chance.Intn(3) {
		f.Push(bloom.Of(madeNode(chance, 0)))
	}
	return f
}

// decided counts by what the claims that win do so.
type decided struct{ important, weight, rule, place int }

func (d *decided) count(all []claim) {
	for _, c := range all {
		for _, other := range all {
			switch {
			case !c.wins(other):
			case c.set.Important != other.set.Important:
				d.important++
			case c.weight != other.weight:
				d.weight++
			case c.rule != other.rule:
				d.rule++
			default:
				d.place++
			}
		}
	}
}

func TestP1501ByChance(t *testing.T) {
	chance := newChance(15)
	var d decided
	empty, filled := 0, 0
	for range 3_000 {
		x, l := madeTree(t, chance), madeRules(chance)
		for e := -1; e <= x.Len(); e++ {
			want := plainWinners(x, e, l)
			if got := Winners(x, e, l); got != want {
				t.Fatalf("P1501: element %d: %v, want %v\n%+v", e, got, want, l)
			}
			if got := fast(x, e, l); got != want {
				t.Fatalf("P1502: element %d: %v, want %v\n%+v", e, got, want, l)
			}
			if want == (table{}) {
				empty++
			} else {
				filled++
			}
			d.count(claimsOf(x, e, l, api.PWidth))
		}
	}
	if min(empty, filled, d.important, d.weight, d.rule, d.place) < 2_000 {
		t.Errorf("too few: %d tables are empty, %d are not; %+v", empty, filled, d)
	}
}

// TestP1502OtherFilterByChance: whatever the filter is, what wins is what the selectors that it leaves tell.
func TestP1502OtherFilterByChance(t *testing.T) {
	chance := newChance(150202)
	same, other := 0, 0
	for range 5_000 {
		x, l := madeTree(t, chance), madeRules(chance)
		m := bucket.New(l)
		for e := range x.Len() {
			f := madeFilter(chance)
			got := Fast(x, e, l, m, f)
			if want := plainFast(x, e, l, m, f); got != want {
				t.Fatalf("element %d: %v, want %v\n%+v", e, got, want, l)
			}
			if got == Winners(x, e, l) {
				same++
			} else {
				other++
			}
			for prop, v := range got {
				isIts := func(c claim) bool { return c.set.Value == v }
				if all := claimsOf(x, e, l, prop); v != (api.Value{}) && !slices.ContainsFunc(all, isIts) {
					t.Fatalf("element %d: property %d is %v: of no rule that matches\n%+v", e, prop, v, l)
				}
			}
		}
	}
	if min(same, other) < 1_000 {
		t.Errorf("too few: %d tables are those of Winners, %d are not", same, other)
	}
}

// TestP1502OtherMapByChance: of any other map and filter the call ends.
func TestP1502OtherMapByChance(t *testing.T) {
	chance := newChance(150203)
	for range 2_000 {
		x, l, m := madeTree(t, chance), madeRules(chance), bucket.New(madeRules(chance))
		for e := -1; e <= x.Len(); e++ {
			Fast(x, e, l, m, madeFilter(chance))
			Fast(x, e, l, m, filterFor(x, e))
		}
	}
}
