package bucket

import (
	"math/rand"
	"slices"
	"testing"

	"tapestrier/api"
	"tapestrier/dom"
	"tapestrier/match"
)

// stands tells whether the selector stands in a bucket that is looked into for n: P1201 word by word.
func stands(s api.Selector, n api.Node) bool {
	if len(s.Parts) == 0 {
		return false
	}
	c := s.Parts[len(s.Parts)-1].Compound
	if len(c.IDs) > 0 {
		return n.ID != "" && c.IDs[0] == n.ID
	}
	if len(c.Classes) > 0 {
		return slices.Contains(n.Classes, c.Classes[0])
	}
	return c.Tag == "" || c.Tag == n.Tag
}

func plainFor(l []api.Rule, n api.Node) []int {
	var out []int
	for i, r := range l {
		if slices.ContainsFunc(r.Sels, func(s api.Selector) bool { return stands(s, n) }) {
			out = append(out, i)
		}
	}
	return out
}

func plainLen(l []api.Rule) int {
	n := 0
	for _, r := range l {
		for _, s := range r.Sels {
			if len(s.Parts) > 0 {
				n++
			}
		}
	}
	return n
}

// compare holds a map of l against the plain calls, at these nodes.
func compare(t *testing.T, l []api.Rule, nodes ...api.Node) {
	t.Helper()
	m := New(l)
	if m.Len() != plainLen(l) {
		t.Fatalf("P1201: Len: %d, want %d\n%+v", m.Len(), plainLen(l), l)
	}
	for _, n := range nodes {
		if got, want := m.For(n), plainFor(l, n); !slices.Equal(got, want) {
			t.Fatalf("P1201: For(%+v): %v, want %v\n%+v", n, got, want, l)
		}
	}
}

// oneOf tells one of these, by chance.
func oneOf[T any](chance *rand.Rand, l ...T) T { return l[chance.Intn(len(l))] }

// names makes some names, by chance.
func names(chance *rand.Rand, most int) []string {
	var out []string
	for range chance.Intn(most + 1) {
		out = append(out, oneOf(chance, "a", "b", "c", "A", ""))
	}
	return out
}

// madeSelector makes a selector that may have so many lists in each other.
func madeSelector(chance *rand.Rand, depth int) api.Selector {
	var s api.Selector
	for k := range oneOf(chance, 0, 1, 1, 1, 1, 2, 2, 3) {
		c := api.Compound{Tag: oneOf(chance, "", "", "a", "b", "A")}
		if chance.Intn(4) == 0 {
			c.IDs = names(chance, 2)
		}
		if chance.Intn(2) == 0 {
			c.Classes = names(chance, 2)
		}
		if chance.Intn(6) == 0 {
			c.Attrs = []api.Attr{{Name: oneOf(chance, "a", "b")}}
		}
		if chance.Intn(4) == 0 {
			c.Pseudos = []api.Pseudo{madePseudo(chance, depth)}
		}
		p := api.Part{Compound: c}
		if k > 0 {
			p.Comb = 1 + chance.Intn(4)
		}
		s.Parts = append(s.Parts, p)
	}
	return s
}

func madePseudo(chance *rand.Rand, depth int) api.Pseudo {
	p := api.Pseudo{Kind: oneOf(chance, api.SNot, api.SIs, 1+chance.Intn(8)), A: chance.Intn(3), B: chance.Intn(3)}
	for k := 0; depth > 0 && k < chance.Intn(3); k++ {
		p.List = append(p.List, madeSelector(chance, depth-1))
	}
	return p
}

func madeRules(chance *rand.Rand, most int) []api.Rule {
	var l []api.Rule
	for range chance.Intn(most + 1) {
		var r api.Rule
		for range chance.Intn(5) {
			r.Sels = append(r.Sels, madeSelector(chance, 2))
		}
		l = append(l, r)
	}
	return l
}

func madeNode(chance *rand.Rand) api.Node {
	return api.Node{Parent: -1, Tag: oneOf(chance, "", "a", "b", "c", "A"), ID: oneOf(chance, "", "", "a", "b", "c"), Classes: names(chance, 6), Attrs: []api.Pair{{Name: oneOf(chance, "a", "b", "c")}}}
}

func TestP1201ByChance(t *testing.T) {
	chance := rand.New(rand.NewSource(12))
	for range 20_000 {
		compare(t, madeRules(chance, 8), api.Node{}, madeNode(chance), madeNode(chance), madeNode(chance))
	}
}

func TestP1201ManyRulesByChance(t *testing.T) {
	chance := rand.New(rand.NewSource(1201))
	for range 200 {
		compare(t, madeRules(chance, 400), madeNode(chance), madeNode(chance), madeNode(chance))
	}
}

// TestP1202ByChance: what matches is among the rules that are told.
func TestP1202ByChance(t *testing.T) {
	chance := rand.New(rand.NewSource(1202))
	matching, told, all := 0, 0, 0
	for range 4_000 {
		var nodes []api.Node
		for k := range 1 + chance.Intn(8) {
			n := madeNode(chance)
			if k > 0 {
				n.Parent = chance.Intn(k)
			}
			nodes = append(nodes, n)
		}
		x, _ := dom.New(nodes)
		l := madeRules(chance, 8)
		m := New(l)
		for e := range x.Len() {
			got := m.For(x.Node(e))
			for i, r := range l {
				if !match.Any(x, e, r.Sels) {
					continue
				}
				matching++
				if !slices.Contains(got, i) {
					t.Fatalf("rule %d matches element %d, and is not among %v\n%+v\n%+v", i, e, got, l, nodes)
				}
			}
			told, all = told+len(got), all+len(l)
		}
	}
	if matching < 10_000 || told >= all {
		t.Errorf("%d matches only, or nothing left out: %d of %d", matching, told, all)
	}
}
