package match

import (
	"math/big"
	"math/rand"
	"slices"
	"strings"
	"testing"

	"tapestrier/api"
	"tapestrier/dom"
)

// page is nodes (with names as a tree tells them), read as plainly as the document says it: by going over all of them.
type page []api.Node

func (l page) has(e int) bool { return e >= 0 && e < len(l) }

func (l page) children(e int) []int {
	var out []int
	for k, n := range l {
		if n.Parent == e {
			out = append(out, k)
		}
	}
	return out
}

// siblings tells the children of e's parent (of the root: itself).
func (l page) siblings(e int) []int {
	if l[e].Parent == -1 {
		return []int{e}
	}
	return l.children(l[e].Parent)
}

func (l page) place(e int) int { return slices.Index(l.siblings(e), e) + 1 }

func (l page) last(e int) bool { return l.place(e) == len(l.siblings(e)) }

func (l page) above(a, e int) bool {
	for e = l[e].Parent; e != -1; e = l[e].Parent {
		if e == a {
			return true
		}
	}
	return false
}

// leads tells whether a Comb leads from e to a.
func (l page) leads(comb, a, e int) bool {
	brothers := l[a].Parent == l[e].Parent && a != e
	switch comb {
	case api.CWithin:
		return l.above(a, e)
	case api.CChild:
		return l[e].Parent == a
	case api.CNext:
		return brothers && l.place(a)+1 == l.place(e)
	case api.CAfter:
		return brothers && l.place(a) < l.place(e)
	}
	return false
}

// compound is P1001, of what keeps within the bounds.
func (l page) compound(e int, c api.Compound) bool {
	if !l.has(e) {
		return false
	}
	n := l[e]
	is := c.Tag == "" || n.Tag == c.Tag
	for _, s := range c.IDs {
		is = is && n.ID == s && n.ID != ""
	}
	for _, s := range c.Classes {
		is = is && slices.Contains(n.Classes, s)
	}
	for _, a := range c.Attrs {
		is = is && plainAttr(n.Attrs, a)
	}
	for _, p := range c.Pseudos {
		is = is && l.pseudo(e, p)
	}
	return is
}

// plainAttr asks the first attribute of the name.
func plainAttr(l []api.Pair, a api.Attr) bool {
	for _, p := range l {
		if p.Name == a.Name {
			return plainText(p.Text, a.Op, a.Text)
		}
	}
	return false
}

// plainText is P1001's row of operators.
func plainText(s string, op int, want string) bool {
	switch op {
	case api.AHas:
		return true
	case api.AIs:
		return s == want
	case api.AWord:
		for _, w := range []string{"\t", "\n", "\f", "\r"} {
			s, want = strings.ReplaceAll(s, w, " "), strings.ReplaceAll(want, w, " ")
		}
		return want != "" && !strings.Contains(want, " ") && strings.Contains(" "+s+" ", " "+want+" ")
	case api.ADash:
		return s == want || strings.Index(s, want+"-") == 0
	case api.ABegins:
		return want != "" && len(s) >= len(want) && s[:len(want)] == want
	case api.AEnds:
		return want != "" && len(s) >= len(want) && s[len(s)-len(want):] == want
	case api.AIn:
		return want != "" && len(strings.Split(s, want)) > 1
	}
	return false
}

// pseudo is P1001's row of pseudo-classes.
func (l page) pseudo(e int, p api.Pseudo) bool {
	switch p.Kind {
	case api.SRoot:
		return e == 0
	case api.SFirst:
		return l.place(e) == 1
	case api.SLast:
		return l.last(e)
	case api.SOnly:
		return l.place(e) == 1 && l.last(e)
	case api.SEmpty:
		return len(l.children(e)) == 0
	case api.SNth:
		return plainRow(l.place(e), p.A, p.B)
	case api.SNot:
		return !l.any(e, p.List)
	case api.SIs:
		return l.any(e, p.List)
	}
	return false
}

// plainRow tells by great numbers whether place is a * n + b for some n from 0 on.
func plainRow(place, a, b int) bool {
	rest := new(big.Int).Sub(big.NewInt(int64(place)), big.NewInt(int64(b)))
	if a == 0 {
		return rest.Sign() == 0
	}
	n, over := new(big.Int).QuoRem(rest, big.NewInt(int64(a)), new(big.Int))
	return over.Sign() == 0 && n.Sign() >= 0
}

// parts is P1002's Selector, of what keeps within the bounds: it tries all elements at each step.
func (l page) parts(e int, s []api.Part) bool {
	if len(s) == 0 {
		return false
	}
	last := s[len(s)-1]
	if !l.compound(e, last.Compound) {
		return false
	}
	if len(s) == 1 {
		return true
	}
	for a := range l {
		if l.leads(last.Comb, a, e) && l.parts(a, s[:len(s)-1]) {
			return true
		}
	}
	return false
}

func (l page) any(e int, sels []api.Selector) bool {
	for _, s := range sels {
		if l.parts(e, s.Parts) {
			return true
		}
	}
	return false
}

// plainFits is P1003 of selectors that lie in so many lists.
func plainFits(l []api.Selector, depth int) bool {
	if depth > 8 {
		return false
	}
	for _, s := range l {
		if len(s.Parts) > 50 {
			return false
		}
		for _, p := range s.Parts {
			for _, one := range p.Compound.Pseudos {
				if (one.Kind == api.SNot || one.Kind == api.SIs) && !plainFits(one.List, depth+1) {
					return false
				}
			}
		}
	}
	return true
}

// selector is P1002 and P1003.
func (l page) selector(e int, s api.Selector) bool {
	return plainFits([]api.Selector{s}, 0) && l.parts(e, s.Parts)
}

// treeOf makes a tree of nodes that are one.
func treeOf(t *testing.T, l page) *dom.Tree {
	t.Helper()
	x, err := dom.New(l)
	if err != api.OK {
		t.Fatalf("no tree: %d", err)
	}
	return x
}

// compare holds all three calls against the plain ones at all elements, and some that there are not; it tells how many elements the selector is of.
func compare(t *testing.T, l page, x *dom.Tree, sels []api.Selector) int {
	t.Helper()
	count := 0
	for e := -2; e < len(l)+2; e++ {
		some := false
		for _, s := range sels {
			want := l.selector(e, s)
			some = some || want
			if want {
				count++
			}
			if got := Selector(x, e, s); got != want {
				t.Fatalf("P1002: Selector of %d: %v\n%+v\n%+v", e, got, l, s)
			}
			compareCompounds(t, l, x, e, s)
		}
		if got := Any(x, e, sels); got != some {
			t.Fatalf("P1002: Any of %d: %v\n%+v\n%+v", e, got, l, sels)
		}
	}
	return count
}

// compareCompounds holds Compound of each of the parts against the plain one.
func compareCompounds(t *testing.T, l page, x *dom.Tree, e int, s api.Selector) {
	t.Helper()
	for _, p := range s.Parts {
		want := plainFits([]api.Selector{{Parts: []api.Part{p}}}, 0) && l.compound(e, p.Compound)
		if got := Compound(x, e, p.Compound); got != want {
			t.Fatalf("P1001: Compound of %d: %v\n%+v\n%+v", e, got, l, p.Compound)
		}
	}
}

// oneOf tells one of these, by chance.
func oneOf[T any](chance *rand.Rand, l ...T) T { return l[chance.Intn(len(l))] }

// madePage makes a tree of up to n nodes, by chance.
func madePage(chance *rand.Rand, n int) page {
	var l page
	for k := range 1 + chance.Intn(n) {
		one := api.Node{Parent: -1, Tag: oneOf(chance, "a", "b", ""), ID: oneOf(chance, "x", "y", "")}
		if k > 0 {
			one.Parent = k - 1 - chance.Intn(min(k, 4))
		}
		for range chance.Intn(3) {
			one.Classes = append(one.Classes, oneOf(chance, "p", "q", ""))
		}
		for range chance.Intn(3) {
			one.Attrs = append(one.Attrs, api.Pair{Name: oneOf(chance, "m", "n", ""), Text: madeText(chance)})
		}
		l = append(l, one)
	}
	return l
}

func madeText(chance *rand.Rand) string {
	s := ""
	for range chance.Intn(4) {
		s += oneOf(chance, "1", "2", "-", " ", "\t", "\v", "1")
	}
	return s
}

func madeCompound(chance *rand.Rand, depth int) api.Compound {
	c := api.Compound{Tag: oneOf(chance, "", "", "a", "b", "A")}
	if chance.Intn(5) == 0 {
		c.IDs = append(c.IDs, oneOf(chance, "x", "y", "x", ""))
	}
	if chance.Intn(4) == 0 {
		c.Classes = append(c.Classes, oneOf(chance, "p", "q", ""))
	}
	if chance.Intn(5) == 0 {
		c.Attrs = append(c.Attrs, api.Attr{Name: oneOf(chance, "m", "n", ""), Op: chance.Intn(9) - 1, Text: madeText(chance)})
	}
	for chance.Intn(3) == 0 {
		p := api.Pseudo{Kind: chance.Intn(10), A: chance.Intn(7) - 3, B: chance.Intn(7) - 3}
		if depth > 0 {
			p.Kind = oneOf(chance, p.Kind, api.SNot, api.SIs)
			for range chance.Intn(4) {
				p.List = append(p.List, madeSelector(chance, depth-1))
			}
		}
		c.Pseudos = append(c.Pseudos, p)
	}
	return c
}

func madeSelector(chance *rand.Rand, depth int) api.Selector {
	var s api.Selector
	for range oneOf(chance, 1, 1, 2, 2, 3, 4, 0) {
		s.Parts = append(s.Parts, api.Part{Comb: oneOf(chance, api.CWithin, api.CChild, api.CNext, api.CAfter, api.CAfter, api.CWithin, chance.Intn(8)-1), Compound: madeCompound(chance, depth)})
	}
	return s
}

func TestP1002ByChance(t *testing.T) {
	chance := rand.New(rand.NewSource(10))
	count := 0
	for round := range 10_000 {
		l := madePage(chance, 1+round%14)
		x := treeOf(t, l)
		for range 4 {
			sels := []api.Selector{madeSelector(chance, 2), madeSelector(chance, 3), madeSelector(chance, 1)}[:chance.Intn(4)]
			count += compare(t, l, x, sels)
		}
	}
	if count < 15_000 {
		t.Errorf("the selectors were of %d elements only", count)
	}
}

// TestP1002AllCombs goes through all selectors of up to four parts, each of one tag or of any, on a few trees: all ways to come back are tried.
func TestP1002AllCombs(t *testing.T) {
	chance := rand.New(rand.NewSource(1002))
	for range 12 {
		l := madePage(chance, 12)
		x := treeOf(t, l)
		var grow func(s []api.Part)
		grow = func(s []api.Part) {
			compare(t, l, x, []api.Selector{{Parts: s}})
			if len(s) == 4 {
				return
			}
			for comb := range 6 {
				for _, tag := range []string{"", "a", "b"} {
					grow(append(slices.Clip(s), api.Part{Comb: comb, Compound: api.Compound{Tag: tag}}))
				}
			}
		}
		grow([]api.Part{{Compound: api.Compound{Tag: "a"}}})
	}
}
