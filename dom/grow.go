package dom

import (
	"strings"

	"tapestrier/api"
	"tapestrier/text"
)

// add puts n behind all elements of the tree, if its parent allows it.
func (t *Tree) add(n api.Node) api.Errno {
	own := len(t.elements)
	if own == 0 {
		if n.Parent != none {
			return api.ErrDom
		}
		t.elements = append(t.elements, element{node: kept(n), place: 1})
		return api.OK
	}
	if !t.has(n.Parent) {
		return api.ErrDom
	}
	parent := &t.elements[n.Parent]
	if parent.depth == api.MaxDepth {
		return api.ErrDeep
	}
	parent.children = append(parent.children, own)
	t.elements = append(t.elements, element{node: kept(n), depth: parent.depth + 1, place: len(parent.children)})
	return api.OK
}

// kept tells n as a tree keeps it: lowered, and with nothing of what was handed in.
func kept(n api.Node) api.Node {
	out := api.Node{Parent: n.Parent, Tag: text.Lower(n.Tag), ID: strings.Clone(n.ID)}
	for _, c := range n.Classes {
		out.Classes = append(out.Classes, strings.Clone(c))
	}
	for _, a := range n.Attrs {
		out.Attrs = append(out.Attrs, api.Pair{Name: text.Lower(a.Name), Text: strings.Clone(a.Text)})
	}
	return out
}
