package dom

import "iter"

// has tells whether there is an element e.
func (t *Tree) has(e int) bool {
	return 0 <= e && e < len(t.elements)
}

// sibling tells the child of e's parent that stands so many places behind e (none: there is none).
func (t *Tree) sibling(e, behind int) int {
	parent := t.elements[e].node.Parent
	if parent == none {
		return none
	}
	siblings := t.elements[parent].children
	i := t.elements[e].place - 1 + behind
	if i < 0 || i >= len(siblings) {
		return none
	}
	return siblings[i]
}

// ordered tells all elements one by one, each ahead of all below it.
func (t *Tree) ordered() iter.Seq[int] {
	return func(yield func(int) bool) {
		if t.Len() == 0 {
			return
		}
		for e := 0; e != none && yield(e); e = t.following(e) {
		}
	}
}

// upward tells e, its parent, and so on, up to the root.
func (t *Tree) upward(e int) iter.Seq[int] {
	return func(yield func(int) bool) {
		for a := e; a != none && yield(a); a = t.elements[a].node.Parent {
		}
	}
}

// following tells who comes right behind e in the order of All (none: e is the last one).
func (t *Tree) following(e int) int {
	if l := t.elements[e].children; len(l) > 0 {
		return l[0]
	}
	for a := range t.upward(e) {
		if next := t.sibling(a, 1); next != none {
			return next
		}
	}
	return none
}
