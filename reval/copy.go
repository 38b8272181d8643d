package reval

import (
	"strings"

	"tapestrier/api"
)

// copier makes a selector's lists anew. It goes by steps of its own instead of calling itself, so that no depth of lists is too much.
type copier struct {
	twins   twins[api.Selector] // of the lists in which the next one lies
	steps   []step              // what is still to do, the next one last
	endless bool                // a list that lies in itself has been met
}

// step is either a pseudo-class whose List is not yet made anew, or else a list of which all that lies in it has been.
type step struct {
	pseudo *api.Pseudo
	done   []api.Selector
}

// copyOf tells s in new memory, each list and text of its own.
// A list that lies in itself has a copy that does so, too: so the copy has all that s has, and yet comes to an end.
func copyOf(s api.Selector) api.Selector {
	c := copier{twins: twins[api.Selector]{}}
	s.Parts = c.parts(s.Parts)
	for len(c.steps) > 0 {
		last := len(c.steps) - 1
		next := c.steps[last]
		c.steps = c.steps[:last]
		if next.pseudo != nil {
			c.enter(next.pseudo)
		} else {
			c.leave(next.done)
		}
	}
	return s
}

// enter makes the List of p anew.
func (c *copier) enter(p *api.Pseudo) {
	if twin, ok := c.twins.of(p.List); ok {
		c.endless = true
		p.List = twin
		return
	}
	c.steps = append(c.steps, step{done: p.List})
	p.List = c.twins.add(p.List)
	for i := range p.List {
		p.List[i].Parts = c.parts(p.List[i].Parts)
	}
}

// leave is for a list in which nothing is left to do: should it come again, it has another copy.
// Where something is endless the copies stay, for there may be more ways through lists that lie in each other than can be gone.
func (c *copier) leave(l []api.Selector) {
	if !c.endless {
		c.twins.drop(l)
	}
}

// parts tells the parts l anew, but for their lists of selectors: these become steps.
func (c *copier) parts(l []api.Part) []api.Part {
	out := fresh(l)
	for i := range out {
		p := &out[i].Compound
		p.Tag = strings.Clone(p.Tag)
		p.IDs, p.Classes = texts(p.IDs), texts(p.Classes)
		p.Attrs = attrs(p.Attrs)
		p.Pseudos = c.pseudos(p.Pseudos)
	}
	return out
}

// pseudos tells the pseudo-classes l anew, but for their lists: these become steps.
func (c *copier) pseudos(l []api.Pseudo) []api.Pseudo {
	out := fresh(l)
	for i := range out {
		if p := &out[i]; len(p.List) > 0 {
			c.steps = append(c.steps, step{pseudo: p})
		} else {
			p.List = fresh(p.List)
		}
	}
	return out
}

// attrs tells the conditions l anew.
func attrs(l []api.Attr) []api.Attr {
	out := fresh(l)
	for i := range out {
		out[i].Name, out[i].Text = strings.Clone(out[i].Name), strings.Clone(out[i].Text)
	}
	return out
}

// texts tells the texts l anew.
func texts(l []string) []string {
	out := fresh(l)
	for i := range out {
		out[i] = strings.Clone(out[i])
	}
	return out
}
