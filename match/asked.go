package match

import (
	"slices"

	"tapestrier/api"
	"tapestrier/dom"
)

// asked is a selector that is asked of a tree's elements.
// It keeps what it found out, since there may be very many ways to come to the same element.
type asked struct {
	tree  *dom.Tree
	parts []api.Part
	found [][]verdict // by part, and by the element to which its Comb has led
	lists map[spot][]*asked
}

// verdict is whether the parts ahead are of an element, or of one further ahead.
type verdict uint8

const (
	unknown verdict = iota
	yes
	no
)

// spot is where a list of not or is stands: in which part, at which of its pseudo-classes.
type spot struct{ part, pseudo int }

// is tells whether the selector is of e.
func (a *asked) is(e int) bool {
	return len(a.parts) > 0 && a.isUpTo(len(a.parts)-1, e)
}

// isUpTo tells whether the selector of the parts up to this one is of e.
func (a *asked) isUpTo(part, e int) bool {
	return a.isCompound(part, e) && (part == 0 || a.isAhead(part, e))
}

// isAhead tells whether the selector of the parts ahead of this one is of some element to which its Comb leads from e.
// All elements that are passed have the same verdict: so none of them is ever passed again for that part.
func (a *asked) isAhead(part, e int) bool {
	found := a.foundOf(part)
	v := no
	var passed []int
	for x := range ahead(a.tree, e, a.parts[part].Comb) {
		if found[x] != unknown {
			v = found[x]
			break
		}
		passed = append(passed, x)
		if a.isUpTo(part-1, x) {
			v = yes
			break
		}
	}
	for _, x := range passed {
		found[x] = v
	}
	return v == yes
}

// foundOf tells the verdicts that are known of a part; whoever writes into them keeps what he wrote.
func (a *asked) foundOf(part int) []verdict {
	if a.found == nil {
		a.found = make([][]verdict, len(a.parts))
	}
	if a.found[part] == nil {
		a.found[part] = make([]verdict, a.tree.Len())
	}
	return a.found[part]
}

// isCompound tells whether e is all that the Compound of the part says.
func (a *asked) isCompound(part, e int) bool {
	c := a.parts[part].Compound
	if !isNamed(a.tree.Node(e), c) {
		return false
	}
	for i, p := range c.Pseudos {
		if !a.isPseudo(spot{part, i}, p, e) {
			return false
		}
	}
	return true
}

// isPseudo tells whether e is of the pseudo-class p, which stands at that spot.
func (a *asked) isPseudo(at spot, p api.Pseudo, e int) bool {
	switch p.Kind {
	case api.SNot:
		return !a.isAny(at, p.List, e)
	case api.SIs:
		return a.isAny(at, p.List, e)
	}
	return isPlaced(a.tree, e, p)
}

// isAny tells whether one at least of the list l, which stands at that spot, is of e.
func (a *asked) isAny(at spot, l []api.Selector, e int) bool {
	return slices.ContainsFunc(a.list(at, l), func(s *asked) bool { return s.is(e) })
}

// list tells the selectors of the list l, which stands at that spot: the same ones at each call, with what they found out.
func (a *asked) list(at spot, l []api.Selector) []*asked {
	if out, ok := a.lists[at]; ok {
		return out
	}
	out := make([]*asked, len(l))
	for i, s := range l {
		out[i] = &asked{tree: a.tree, parts: s.Parts}
	}
	if a.lists == nil {
		a.lists = make(map[spot][]*asked)
	}
	a.lists[at] = out
	return out
}
