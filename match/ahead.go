package match

import (
	"iter"

	"tapestrier/api"
	"tapestrier/dom"
)

// ahead tells one by one the elements to which a Comb leads from e, the nearest one first.
func ahead(t *dom.Tree, e, comb int) iter.Seq[int] {
	next, far := way(t, comb)
	return func(yield func(int) bool) {
		for x := next(e); x != none && yield(x) && far; x = next(x) {
		}
	}
}

// way tells how a Comb leads from an element to the next one ahead, and whether it leads on from there.
func way(t *dom.Tree, comb int) (next func(int) int, far bool) {
	switch comb {
	case api.CWithin:
		return t.Parent, true
	case api.CChild:
		return t.Parent, false
	case api.CNext:
		return t.Before, false
	case api.CAfter:
		return t.Before, true
	}
	return func(int) int { return none }, false
}
