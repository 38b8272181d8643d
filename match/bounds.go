package match

import (
	"iter"

	"tapestrier/api"
)

// The bounds of selectors that may be of an element.
const (
	maxParts = 50
	maxDepth = 8 // lists of not and is in each other
)

// fits tells whether s, which lies in so many lists, and all that is in it keep within the bounds.
// It never looks deeper than the bound, so that lists which lie in themselves end, too.
func fits(s api.Selector, depth int) bool {
	if len(s.Parts) > maxParts {
		return false
	}
	for l := range listsOf(s) {
		if depth == maxDepth {
			return false
		}
		for _, inner := range l {
			if !fits(inner, depth+1) {
				return false
			}
		}
	}
	return true
}

// listsOf tells one by one the lists of not and is that lie in s, but not those that lie in these.
func listsOf(s api.Selector) iter.Seq[[]api.Selector] {
	return func(yield func([]api.Selector) bool) {
		for _, part := range s.Parts {
			for _, p := range part.Compound.Pseudos {
				if isListed(p) && !yield(p.List) {
					return
				}
			}
		}
	}
}

// isListed tells whether the pseudo-class is one of those whose List means something.
func isListed(p api.Pseudo) bool {
	return p.Kind == api.SNot || p.Kind == api.SIs
}
