package sel

import (
	"strings"

	"tapestrier/api"
	"tapestrier/text"
)

// whole is the number 1, in thousandths.
const whole = 1000

// operators are the signs ahead of the `=` of an operator.
var operators = [...]struct{ sign, op int }{
	{'~', api.AWord},
	{'|', api.ADash},
	{'^', api.ABegins},
	{'$', api.AEnds},
	{'*', api.AIn},
}

// unit reads the rest of the unit that begins with the token first, and adds it to the compound.
func (r *reader) unit(c *api.Compound, first api.Token) bool {
	switch first.Kind {
	case api.THash:
		c.IDs = append(c.IDs, strings.Clone(first.Text))
		return true
	case api.TSquare:
		a, ok := r.attribute()
		c.Attrs = append(c.Attrs, a)
		return ok
	case api.TColon:
		p, ok := r.pseudo()
		c.Pseudos = append(c.Pseudos, p)
		return ok
	}
	name, ok := r.pull(api.TIdent)
	c.Classes = append(c.Classes, strings.Clone(name.Text))
	return ok
}

// attribute reads what stands behind a TSquare, up to its TBack.
func (r *reader) attribute() (api.Attr, bool) {
	name, ok := r.pullAmid(api.TIdent)
	if !ok {
		return api.Attr{}, false
	}
	a := api.Attr{Name: text.Lower(name.Text), Op: api.AHas}
	if r.passes(api.TBack) {
		return a, true
	}
	if a.Op, ok = r.operator(); !ok {
		return api.Attr{}, false
	}
	held, ok := r.pullAmid(api.TIdent, api.TString)
	a.Text = strings.Clone(held.Text)
	return a, ok && r.passes(api.TBack)
}

// operator reads the operator of an attribute: there may be a sign ahead of its `=`.
func (r *reader) operator() (int, bool) {
	op := api.AIs
	for _, row := range operators {
		if r.passesSign(row.sign) {
			op = row.op
			break
		}
	}
	return op, r.passesSign('=')
}

// pseudo reads what stands behind a TColon.
func (r *reader) pseudo() (api.Pseudo, bool) {
	name, ok := r.pull(api.TIdent, api.TFunc)
	if !ok {
		return api.Pseudo{}, false
	}
	word := text.Lower(name.Text)
	if name.Kind == api.TIdent {
		return plain(word)
	}
	switch word {
	case "nth-child":
		return r.nth()
	case "not":
		return r.listed(api.SNot)
	case "is":
		return r.listed(api.SIs)
	}
	return api.Pseudo{}, false
}

// plain tells the pseudo-class of that name, of those that are a name alone.
func plain(word string) (api.Pseudo, bool) {
	switch word {
	case "root":
		return api.Pseudo{Kind: api.SRoot}, true
	case "first-child":
		return api.Pseudo{Kind: api.SFirst}, true
	case "last-child":
		return api.Pseudo{Kind: api.SLast}, true
	case "only-child":
		return api.Pseudo{Kind: api.SOnly}, true
	case "empty":
		return api.Pseudo{Kind: api.SEmpty}, true
	}
	return api.Pseudo{}, false
}

// nth reads what stands behind the TFunc of an nth-child, up to its TEnd.
func (r *reader) nth() (api.Pseudo, bool) {
	of, ok := r.pullAmid(api.TIdent, api.TNumber)
	if !ok || !r.passes(api.TEnd) {
		return api.Pseudo{}, false
	}
	if of.Kind == api.TNumber {
		return api.Pseudo{Kind: api.SNth, B: of.N / whole}, of.Whole
	}
	switch text.Lower(of.Text) {
	case "odd":
		return api.Pseudo{Kind: api.SNth, A: 2, B: 1}, true
	case "even":
		return api.Pseudo{Kind: api.SNth, A: 2}, true
	}
	return api.Pseudo{}, false
}

// listed reads what stands behind the TFunc of a not or an is, up to its TEnd.
func (r *reader) listed(kind int) (api.Pseudo, bool) {
	if r.depth == maxDepth {
		return api.Pseudo{}, false
	}
	r.depth++
	l, ok := r.list()
	r.depth--
	return api.Pseudo{Kind: kind, List: l}, ok && r.passes(api.TEnd)
}
