package reval

import (
	"math/rand"
	"slices"
	"testing"

	"tapestrier/api"
	"tapestrier/dom"
	"tapestrier/match"
)

// plainNeeds is P1401's Needs word by word.
func plainNeeds(s api.Selector) bool {
	for _, p := range s.Parts {
		for range p.Compound.Attrs {
			return true
		}
		for range p.Compound.Pseudos {
			return true
		}
		switch p.Comb {
		case api.CNext, api.CAfter:
			return true
		}
	}
	return false
}

// plainList tells the selectors, in the memory that was handed in.
func plainList(l []api.Rule) []api.Selector {
	var all []api.Selector
	for _, r := range l {
		all = append(all, r.Sels...)
	}
	return slices.DeleteFunc(all, func(s api.Selector) bool { return !plainNeeds(s) })
}

// oneOf tells one of these, by chance.
func oneOf[T any](chance *rand.Rand, l ...T) T { return l[chance.Intn(len(l))] }

// names makes some names, by chance.
func names(chance *rand.Rand, most int) []string {
	var out []string
	for range chance.Intn(most + 1) {
		out = append(out, oneOf(chance, "p", "q", ""))
	}
	return out
}

// madeSelector makes a selector that may have so many lists in each other; a plain one has hardly anything but names.
func madeSelector(chance *rand.Rand, depth int, plain bool) api.Selector {
	var s api.Selector
	for range oneOf(chance, 0, 1, 1, 1, 2, 2, 3, 4) {
		c := api.Compound{Tag: oneOf(chance, "", "", "a", "b")}
		if chance.Intn(5) == 0 {
			c.IDs = names(chance, 1)
		}
		if chance.Intn(3) == 0 {
			c.Classes = names(chance, 2)
		}
		if chance.Intn(5) == 0 && !plain {
			c.Attrs = []api.Attr{{Name: oneOf(chance, "m", "n"), Op: chance.Intn(8) - 1, Text: oneOf(chance, "1", "2", "")}}
		}
		for chance.Intn(4) == 0 && !plain {
			c.Pseudos = append(c.Pseudos, madePseudo(chance, depth))
		}
		comb := oneOf(chance, api.CWithin, api.CChild, api.CWithin, chance.Intn(7)-1)
		s.Parts = append(s.Parts, api.Part{Comb: comb, Compound: c})
	}
	return s
}

func madePseudo(chance *rand.Rand, depth int) api.Pseudo {
	p := api.Pseudo{Kind: oneOf(chance, api.SNot, api.SIs, chance.Intn(10)), A: chance.Intn(5) - 2, B: chance.Intn(5) - 2}
	for k := 0; depth > 0 && k < chance.Intn(4); k++ {
		p.List = append(p.List, madeSelector(chance, depth-1, chance.Intn(2) == 0))
	}
	return p
}

func madeRules(chance *rand.Rand) []api.Rule {
	var l []api.Rule
	for range chance.Intn(6) {
		var r api.Rule
		for range chance.Intn(5) {
			r.Sels = append(r.Sels, madeSelector(chance, oneOf(chance, 1, 2, 3, 10), chance.Intn(2) == 0))
		}
		l = append(l, r)
	}
	return l
}

func madeNode(chance *rand.Rand, parent int) api.Node {
	n := api.Node{Parent: parent, Tag: oneOf(chance, "a", "b", ""), ID: oneOf(chance, "p", "q", "", "")}
	n.Classes = names(chance, 2)
	if chance.Intn(2) == 0 {
		n.Attrs = []api.Pair{{Name: oneOf(chance, "m", "n"), Text: oneOf(chance, "1", "2", "")}}
	}
	return n
}

// madeTree makes a tree, by chance.
func madeTree(t *testing.T, chance *rand.Rand) *dom.Tree {
	t.Helper()
	l := []api.Node{madeNode(chance, -1)}
	for k := range chance.Intn(10) {
		l = append(l, madeNode(chance, max(0, k-chance.Intn(4))))
	}
	return treeOf(t, l...)
}

func TestP1401ByChance(t *testing.T) {
	chance := rand.New(rand.NewSource(14))
	needing, all, yes, no := 0, 0, 0, 0
	for range 10_000 {
		l := madeRules(chance)
		for _, r := range l {
			for _, s := range r.Sels {
				wantNeeds(t, s, s, plainNeeds(s))
				all++
			}
		}
		want := plainList(l)
		got := List(l)
		wantList(t, got, want)
		wantApart(t, "what is told", got, l)
		x := madeTree(t, chance)
		for e := -1; e <= x.Len(); e++ {
			for i, bit := range Bits(x, e, got) {
				if bit != match.Selector(x, e, want[i]) {
					t.Fatalf("the bit of element %d: %v\n%+v", e, bit, want[i])
				}
				if bit {
					yes++
				} else {
					no++
				}
			}
		}
		needing += len(got)
		if t.Failed() {
			return
		}
	}
	if needing < 10_000 || all-needing < 10_000 || yes < 5_000 || no < 10_000 {
		t.Errorf("too few: %d of %d need it, %d bits are true, %d false", needing, all, yes, no)
	}
}

// TestP1401NamesAlone: what does not need it matches two children of one parent alike, if their names are alike.
func TestP1401NamesAlone(t *testing.T) {
	chance := rand.New(rand.NewSource(1401))
	yes, apart := 0, 0
	for range 20_000 {
		l := []api.Node{madeNode(chance, -1), madeNode(chance, 0), madeNode(chance, 1), madeNode(chance, 1), madeNode(chance, 1), madeNode(chance, 2)}
		l[4].Tag, l[4].ID, l[4].Classes = l[2].Tag, l[2].ID, l[2].Classes
		x := treeOf(t, l...)
		for range 10 {
			s := madeSelector(chance, 2, chance.Intn(2) == 0)
			one, other := match.Selector(x, 2, s), match.Selector(x, 4, s)
			if one != other && !Needs(s) {
				t.Fatalf("element 2: %v, element 4: %v\n%+v\n%+v", one, other, s, l)
			}
			if one && other && !Needs(s) {
				yes++
			}
			if one != other {
				apart++
			}
		}
	}
	if yes < 5_000 || apart < 1_000 {
		t.Errorf("too few: %d match both, %d one of them alone", yes, apart)
	}
}
