package seq

import (
	"iter"

	"tapestrier/api"
	"tapestrier/dom"
)

// none stands for the parent that the root has not.
const none = -1

// elements tells the elements of t one by one, each with its parent (none: it is the root).
// They come in the order of their numbers, in which a tree has each parent ahead of its children.
func elements(t *dom.Tree) iter.Seq2[int, int] {
	return func(yield func(e, parent int) bool) {
		if t == nil {
			return
		}
		for e := range t.Len() {
			if !yield(e, t.Parent(e)) {
				return
			}
		}
	}
}

// above tells the parent's style, of those that have been told (nil: it is the root's parent).
func above(told []api.Style, parent int) *api.Style {
	if parent == none {
		return nil
	}
	return &told[parent]
}
