package bloom

import (
	"math/rand"
	"slices"
	"testing"

	"tapestrier/api"
	"tapestrier/dom"
	"tapestrier/match"
)

// plainFilter is P1302 word by word.
type plainFilter map[int]int

func plainCounters(h int) []int {
	h &= 0xFFFFFFFF
	if h%1024 == h/1024%1024 {
		return []int{h % 1024}
	}
	return []int{h % 1024, h / 1024 % 1024}
}

func (f plainFilter) push(l []int) {
	for _, h := range l {
		for _, i := range plainCounters(h) {
			f[i] = min(f[i]+1, 255)
		}
	}
}

func (f plainFilter) pop(l []int) {
	for _, h := range l {
		for _, i := range plainCounters(h) {
			if f[i] != 255 {
				f[i] = max(f[i]-1, 0)
			}
		}
	}
}

func (f plainFilter) may(h int) bool {
	return !slices.ContainsFunc(plainCounters(h), func(i int) bool { return f[i] == 0 })
}

// plainOf and plainWants are P1301 word by word.
func plainOf(n api.Node) []int {
	var out []int
	if n.Tag != "" {
		out = append(out, tag(n.Tag))
	}
	if n.ID != "" {
		out = append(out, id(n.ID))
	}
	for _, s := range n.Classes {
		out = append(out, class(s))
	}
	return out
}

func plainWants(s api.Selector) []int {
	var out []int
	for i := len(s.Parts) - 2; i >= 0; i-- {
		if right := s.Parts[i+1].Comb; right != api.CWithin && right != api.CChild {
			break
		}
		c := s.Parts[i].Compound
		if c.Tag != "" {
			out = append(out, tag(c.Tag))
		}
		for _, s := range c.IDs {
			out = append(out, id(s))
		}
		for _, s := range c.Classes {
			out = append(out, class(s))
		}
	}
	return out
}

// oneOf tells one of these, by chance.
func oneOf[T any](chance *rand.Rand, l ...T) T { return l[chance.Intn(len(l))] }

// names makes some names, by chance.
func names(chance *rand.Rand, most int) []string {
	var out []string
	for range chance.Intn(most + 1) {
		out = append(out, oneOf(chance, "a", "b", "c", "A", "", "\xff", "longer name"))
	}
	return out
}

func madeSelector(chance *rand.Rand, parts int) api.Selector {
	var s api.Selector
	for k := range parts {
		c := api.Compound{Tag: oneOf(chance, "", "", "a", "b", "c")}
		if chance.Intn(4) == 0 {
			c.IDs = names(chance, 2)
		}
		if chance.Intn(3) == 0 {
			c.Classes = names(chance, 2)
		}
		if chance.Intn(8) == 0 {
			c.Pseudos = []api.Pseudo{{Kind: oneOf(chance, api.SNot, api.SIs), List: []api.Selector{madeSelector(chance, 1)}}}
		}
		p := api.Part{Compound: c}
		if k > 0 || chance.Intn(8) == 0 {
			p.Comb = oneOf(chance, 1, 1, 1, 2, 2, 3, 4, chance.Intn(7)-1)
		}
		s.Parts = append(s.Parts, p)
	}
	return s
}

func madeNode(chance *rand.Rand) api.Node {
	return api.Node{Parent: -1, Tag: oneOf(chance, "", "a", "b", "c", "A"), ID: oneOf(chance, "", "", "a", "b", "c"), Classes: names(chance, 4)}
}

func TestP1301ByChance(t *testing.T) {
	chance := rand.New(rand.NewSource(1301))
	for range 50_000 {
		n, s := madeNode(chance), madeSelector(chance, chance.Intn(7))
		wantHashes(t, n, Of(n), plainOf(n)...)
		wantHashes(t, s, Wants(s), plainWants(s)...)
		if t.Failed() {
			return
		}
	}
}

// madeHash makes a hash, by chance, whose counters are few or many.
func madeHash(chance *rand.Rand, counters int) int {
	h := hash(chance.Intn(counters), chance.Intn(counters))
	return oneOf(chance, h, h+chance.Intn(4096)<<20, h-chance.Intn(1<<20)<<32)
}

// TestP1302ByChance: pushes and pops in any order, those of what never was there too.
func TestP1302ByChance(t *testing.T) {
	chance := rand.New(rand.NewSource(1302))
	full, back := 0, 0
	for range 300 {
		counters := oneOf(chance, 2, 4, 16, 128, api.Counters)
		pushes := chance.Intn(5)
		var f Filter
		plain := plainFilter{}
		for range 300 {
			var l []int
			for range chance.Intn(8) {
				l = append(l, madeHash(chance, counters))
			}
			if chance.Intn(5) < pushes {
				f.Push(l)
				plain.push(l)
			} else {
				f.Pop(l)
				plain.pop(l)
			}
			if h := madeHash(chance, counters); f.May(h) != plain.may(h) {
				t.Fatalf("May(%d): %v", h, f.May(h))
			}
		}
		wantCounts(t, &f, plain)
		if t.Failed() {
			return
		}
		full += f.Count(0) / 255
		back += 1 - min(f.Count(0), 1)
	}
	if full < 10 || back < 10 {
		t.Errorf("too few that are full, or back at 0: %d, %d", full, back)
	}
}

// TestP1303ByChance: what was pushed more often than popped may be there, however crowded the filter.
func TestP1303ByChance(t *testing.T) {
	chance := rand.New(rand.NewSource(1303))
	denied := 0
	for range 200 {
		counters := oneOf(chance, 2, 16, 128, api.Counters)
		var f Filter
		var there [][]int
		for range oneOf(chance, 50, 2_000) {
			if len(there) > 0 && chance.Intn(5) < 2 {
				k := chance.Intn(len(there))
				f.Pop(there[k])
				there = slices.Delete(there, k, k+1)
			} else {
				var l []int
				for range chance.Intn(6) {
					l = append(l, madeHash(chance, counters))
				}
				f.Push(l)
				there = append(there, l)
			}
			if h := madeHash(chance, counters); !f.May(h) {
				denied++
			}
		}
		for _, l := range there {
			wantMay(t, &f, true, l...)
		}
		if t.Failed() {
			return
		}
	}
	if denied < 1_000 {
		t.Errorf("hardly anything is denied: %d", denied)
	}
}

// TestP1303BackToZero: when all is popped that was pushed, and no counter was Full, the filter is a zero one.
func TestP1303BackToZero(t *testing.T) {
	chance := rand.New(rand.NewSource(1304))
	for range 200 {
		var f Filter
		var l []int
		for range 100 {
			l = append(l, chance.Intn(1<<32))
		}
		for part := range slices.Chunk(l, 7) {
			f.Push(part)
		}
		wantMay(t, &f, true, l...)
		chance.Shuffle(len(l), func(i, k int) { l[i], l[k] = l[k], l[i] })
		for part := range slices.Chunk(l, 9) {
			f.Pop(part)
		}
		if f != (Filter{}) {
			t.Fatal("something is left")
		}
	}
}

// madeTree makes a tree, by chance.
func madeTree(t *testing.T, chance *rand.Rand, size int) *dom.Tree {
	t.Helper()
	var l []api.Node
	for k := range size {
		n := madeNode(chance)
		if k > 0 {
			n.Parent = max(0, k-1-chance.Intn(4))
		}
		l = append(l, n)
	}
	x, err := dom.New(l)
	if err != api.OK {
		t.Fatal(err)
	}
	return x
}

// walk goes through the tree from e down, with the ancestors' hashes in f, and asks of each element.
func walk(x *dom.Tree, e int, f *Filter, ask func(e int)) {
	ask(e)
	l := Of(x.Node(e))
	f.Push(l)
	for _, c := range x.Children(e) {
		walk(x, c, f, ask)
	}
	f.Pop(l)
}

// allMay tells whether the filter may have all that the selector wants.
func allMay(f *Filter, s api.Selector) bool {
	return !slices.ContainsFunc(Wants(s), func(h int) bool { return !f.May(h) })
}

// TestP1303NoAncestorDenied: of an element that a selector matches the ancestors are there, whatever it wants of them.
func TestP1303NoAncestorDenied(t *testing.T) {
	chance := rand.New(rand.NewSource(1305))
	matching, denied := 0, 0
	for range 300 {
		x := madeTree(t, chance, 1+chance.Intn(30))
		var l []api.Selector
		for range 30 {
			l = append(l, madeSelector(chance, 1+chance.Intn(4)))
		}
		var f Filter
		walk(x, 0, &f, func(e int) {
			for _, s := range l {
				may := allMay(&f, s)
				if !may {
					denied++
				}
				if match.Selector(x, e, s) {
					matching++
					if !may {
						t.Fatalf("element %d is denied an ancestor of %+v", e, s)
					}
				}
			}
		})
		if f != (Filter{}) {
			t.Fatal("something is left behind the root")
		}
	}
	if matching < 5_000 || denied < 5_000 {
		t.Errorf("too few: %d matching, %d denied", matching, denied)
	}
}

// TestP1303DeepTree: the deepest tree that there is, all of one name: its counters are Full, and no ancestor is denied on the way back either.
func TestP1303DeepTree(t *testing.T) {
	l := []api.Node{{Parent: -1, Tag: "a", Classes: []string{"c", "c"}}}
	for k := range api.MaxDepth {
		l = append(l, api.Node{Parent: k, Tag: "a", Classes: []string{"c", "c"}})
	}
	x, err := dom.New(l)
	if err != api.OK {
		t.Fatal(err)
	}
	s := read(t, "a.c > a a")
	var f Filter
	for e := range l {
		if match.Selector(x, e, s) && !allMay(&f, s) {
			t.Fatalf("element %d is denied its ancestors", e)
		}
		f.Push(Of(x.Node(e)))
	}
	if i := class("c") % 1024; f.Count(i) != api.Full {
		t.Errorf("Count(%d): %d", i, f.Count(i))
	}
	for e := len(l) - 1; e > 0; e-- {
		f.Pop(Of(x.Node(e)))
		wantMay(t, &f, true, tag("a"), class("c"))
	}
}
