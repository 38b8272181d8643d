package weigh

import (
	"math/rand"
	"testing"

	"tapestrier/api"
	"tapestrier/dom"
	"tapestrier/match"
)

// cut tells s, which lies in so many lists, without what lies in lists that are more than 8 deep.
func cut(s api.Selector, depth int) api.Selector {
	var out api.Selector
	for _, p := range s.Parts {
		var kept []api.Pseudo
		for _, one := range p.Compound.Pseudos {
			var l []api.Selector
			for k := 0; depth < 8 && isList(one) && k < len(one.List); k++ {
				l = append(l, cut(one.List[k], depth+1))
			}
			one.List = l
			kept = append(kept, one)
		}
		p.Compound.Pseudos = kept
		out.Parts = append(out.Parts, p)
	}
	return out
}

func isList(p api.Pseudo) bool { return p.Kind == api.SNot || p.Kind == api.SIs }

// plainOf is P1101 of what has been cut, word by word: weights are numbers, which are taken apart where they go into a whole.
func plainOf(s api.Selector) int {
	ids, classes, tags := 0, 0, 0
	for _, p := range s.Parts {
		c := p.Compound
		for range c.IDs {
			ids++
		}
		for range c.Classes {
			classes++
		}
		for range c.Attrs {
			classes++
		}
		if c.Tag != "" {
			tags++
		}
		for _, one := range c.Pseudos {
			if !isList(one) {
				classes++
				continue
			}
			greatest := 0
			for _, in := range one.List {
				greatest = max(greatest, plainOf(in))
			}
			ids, classes, tags = ids+greatest/65536, classes+greatest/256%256, tags+greatest%256
		}
	}
	return 65536*min(ids, 255) + 256*min(classes, 255) + min(tags, 255)
}

// plainBest is P1101's Best, from the last one of l on.
func plainBest(t *dom.Tree, e int, l []api.Selector) (int, bool) {
	if len(l) == 0 {
		return 0, false
	}
	last := len(l) - 1
	n, ok := plainBest(t, e, l[:last])
	if !match.Selector(t, e, l[last]) {
		return n, ok
	}
	return max(n, plainOf(cut(l[last], 0))), true
}

// compare holds both calls against the plain ones, at all elements and at some that there are not; it tells at how many of them there is a best one.
func compare(t *testing.T, x *dom.Tree, l []api.Selector) int {
	t.Helper()
	for _, s := range l {
		if got, want := Of(s), plainOf(cut(s, 0)); got != want {
			t.Fatalf("P1101: Of: %d, want %d\n%+v", got, want, s)
		}
	}
	count := 0
	for e := -2; e < x.Len()+2; e++ {
		n, ok := Best(x, e, l)
		if want, yes := plainBest(x, e, l); n != want || ok != yes {
			t.Fatalf("P1101: Best of %d: %d, %v, want %d, %v\n%+v", e, n, ok, want, yes, l)
		}
		if ok {
			count++
		}
	}
	return count
}

// oneOf tells one of these, by chance.
func oneOf[T any](chance *rand.Rand, l ...T) T { return l[chance.Intn(len(l))] }

// names makes some names, now and then about as many as a sum can be.
func names(chance *rand.Rand) []string {
	var out []string
	for range oneOf(chance, 0, 0, 0, 0, 0, 1, 1, 2, 254, 255, 256, 257, 300, chance.Intn(600)) {
		out = append(out, oneOf(chance, "p", "q", ""))
	}
	return out
}

// madeSelector makes a selector that may have so many lists in each other.
func madeSelector(chance *rand.Rand, depth int) api.Selector {
	var s api.Selector
	for range oneOf(chance, 0, 1, 1, 1, 1, 2, 3) {
		c := api.Compound{Tag: oneOf(chance, "", "", "a", "b")}
		if chance.Intn(4) == 0 {
			c.Classes = names(chance)
		}
		if chance.Intn(6) == 0 {
			c.IDs = names(chance)
		}
		if chance.Intn(6) == 0 {
			c.Attrs = make([]api.Attr, len(names(chance)))
		}
		for chance.Intn(2) == 0 {
			c.Pseudos = append(c.Pseudos, madePseudo(chance, depth))
		}
		s.Parts = append(s.Parts, api.Part{Comb: chance.Intn(6), Compound: c})
	}
	return s
}

func madePseudo(chance *rand.Rand, depth int) api.Pseudo {
	p := api.Pseudo{Kind: oneOf(chance, api.SNot, api.SIs, api.SIs, chance.Intn(12)-1), A: chance.Intn(5) - 2, B: chance.Intn(5) - 2}
	if depth > 0 {
		for range oneOf(chance, 0, 1, 1, 2) {
			p.List = append(p.List, madeSelector(chance, depth-1))
		}
	}
	return p
}

// madeTree makes a tree of up to n nodes, by chance.
func madeTree(t *testing.T, chance *rand.Rand, n int) *dom.Tree {
	t.Helper()
	var l []api.Node
	for k := range 1 + chance.Intn(n) {
		one := api.Node{Parent: -1, Tag: oneOf(chance, "a", "b"), ID: oneOf(chance, "p", "q", ""), Classes: []string{"p", "q", ""}, Attrs: []api.Pair{{}}}
		if k > 0 {
			one.Parent = chance.Intn(k)
		}
		l = append(l, one)
	}
	return treeOf(t, l...)
}

func TestP1101ByChance(t *testing.T) {
	chance := rand.New(rand.NewSource(11))
	count := 0
	for round := range 20_000 {
		var l []api.Selector
		for range chance.Intn(5) {
			l = append(l, madeSelector(chance, round%6))
		}
		count += compare(t, madeTree(t, chance, 6), l)
	}
	if count < 20_000 {
		t.Errorf("there was a best one at %d elements only", count)
	}
}

// TestP1101DeepByChance puts selectors into lists up to and beyond the bound, with others beside them at each depth.
func TestP1101DeepByChance(t *testing.T) {
	chance := rand.New(rand.NewSource(1101))
	for range 3_000 {
		s := madeSelector(chance, 2)
		for range chance.Intn(13) {
			c := api.Compound{Pseudos: []api.Pseudo{{Kind: oneOf(chance, api.SNot, api.SIs), List: []api.Selector{madeSelector(chance, 1), s, madeSelector(chance, 0)}}}}
			s = madeSelector(chance, 1)
			s.Parts = append(s.Parts, api.Part{Comb: api.CWithin, Compound: c})
		}
		compare(t, madeTree(t, chance, 3), []api.Selector{s, madeSelector(chance, 1)})
	}
}
