package match

import (
	"slices"
	"strings"

	"tapestrier/api"
	"tapestrier/dom"
)

// isNamed tells whether n has the tag, the ID, the classes and the attributes that c says.
func isNamed(n api.Node, c api.Compound) bool {
	if c.Tag != "" && c.Tag != n.Tag {
		return false
	}
	for _, id := range c.IDs {
		if id == "" || id != n.ID {
			return false
		}
	}
	for _, class := range c.Classes {
		if !slices.Contains(n.Classes, class) {
			return false
		}
	}
	for _, a := range c.Attrs {
		if !hasAttr(n, a) {
			return false
		}
	}
	return true
}

// hasAttr tells whether n has an attribute as a says; of several of that name only the first one is looked at.
func hasAttr(n api.Node, a api.Attr) bool {
	i := slices.IndexFunc(n.Attrs, func(p api.Pair) bool { return p.Name == a.Name })
	return i >= 0 && isText(n.Attrs[i].Text, a)
}

// isText tells whether the text of an attribute is as a says.
func isText(text string, a api.Attr) bool {
	switch a.Op {
	case api.AHas:
		return true
	case api.AIs:
		return text == a.Text
	case api.AWord:
		// Words are neither empty nor have white in them: nothing that is or has is found among them.
		return slices.Contains(strings.FieldsFunc(text, isWhite), a.Text)
	case api.ADash:
		rest, ok := strings.CutPrefix(text, a.Text)
		return ok && (rest == "" || rest[0] == '-')
	case api.ABegins:
		return a.Text != "" && strings.HasPrefix(text, a.Text)
	case api.AEnds:
		return a.Text != "" && strings.HasSuffix(text, a.Text)
	case api.AIn:
		return a.Text != "" && strings.Contains(text, a.Text)
	}
	return false
}

// isWhite tells whether c parts words.
func isWhite(c rune) bool {
	switch c {
	case 9, 10, 12, 13, 32:
		return true
	}
	return false
}

// isPlaced tells whether e stands in the tree as the pseudo-class p, none of those with a List, says.
func isPlaced(t *dom.Tree, e int, p api.Pseudo) bool {
	switch p.Kind {
	case api.SRoot:
		return t.Parent(e) == none
	case api.SFirst:
		return isFirst(t, e)
	case api.SLast:
		return isLast(t, e)
	case api.SOnly:
		return isFirst(t, e) && isLast(t, e)
	case api.SEmpty:
		return len(t.Children(e)) == 0
	case api.SNth:
		return isInRow(t.Place(e), p.A, p.B)
	}
	return false
}

// isFirst tells whether e is the first child of its parent, or the root.
func isFirst(t *dom.Tree, e int) bool {
	return t.Place(e) == 1
}

// isLast tells whether e is the last child of its parent, or the root.
func isLast(t *dom.Tree, e int) bool {
	parent := t.Parent(e)
	return parent == none || t.Place(e) == len(t.Children(parent))
}

// isInRow tells whether place is a * n + b for some n from 0 on.
// What lies between two ints may be too much for an int, but never for a uint.
func isInRow(place, a, b int) bool {
	switch {
	case a > 0:
		return place >= b && (uint(place)-uint(b))%uint(a) == 0
	case a < 0:
		return place <= b && (uint(b)-uint(place))%-uint(a) == 0
	}
	return place == b
}
