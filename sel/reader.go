package sel

import (
	"iter"
	"slices"

	"tapestrier/api"
	"tapestrier/text"
)

// reader goes over tokens from the left.
// What it can't read it leaves where it stands: nothing is ever put back, for each token tells alone what it may begin.
type reader struct {
	tokens []api.Token
	place  int
	depth  int // in how many lists of not and is the place lies
}

// ahead tells the token at the place (one of no kind: there is none any more).
func (r *reader) ahead() api.Token {
	if r.place == len(r.tokens) {
		return api.Token{}
	}
	return r.tokens[r.place]
}

// pull tells the token at the place, and goes behind it, if it is of one of these kinds.
func (r *reader) pull(kinds ...int) (api.Token, bool) {
	one := r.ahead()
	if !slices.Contains(kinds, one.Kind) {
		return api.Token{}, false
	}
	r.place++
	return one, true
}

// pullAmid pulls a token as pull does, and passes the white around it.
func (r *reader) pullAmid(kinds ...int) (api.Token, bool) {
	r.passWhite()
	one, ok := r.pull(kinds...)
	r.passWhite()
	return one, ok
}

// passes goes behind the token at the place, if it is of this kind, and tells whether it is.
func (r *reader) passes(kind int) bool {
	_, ok := r.pull(kind)
	return ok
}

// passesSign goes behind the token at the place, if it is this code point, and tells whether it is.
func (r *reader) passesSign(c int) bool {
	return isSign(r.ahead(), c) && r.passes(api.TDelim)
}

// passWhite goes behind all white tokens at the place, and tells whether there are any.
func (r *reader) passWhite() bool {
	from := r.place
	for r.passes(api.TWhite) {
	}
	return r.place > from
}

// list reads selectors, parted by commas.
func (r *reader) list() ([]api.Selector, bool) {
	var out []api.Selector
	for more := true; more; more = r.passes(api.TComma) {
		s, ok := r.selector()
		if !ok {
			return nil, false
		}
		out = append(out, s)
	}
	return out, true
}

// selector reads compounds, parted by combinators, and passes the white around them all.
func (r *reader) selector() (api.Selector, bool) {
	var s api.Selector
	for comb := range r.combinators() {
		c, ok := r.compound()
		if !ok {
			return api.Selector{}, false
		}
		s.Parts = append(s.Parts, api.Part{Comb: comb, Compound: c})
	}
	return s, true
}

// combinators pulls one by one what stands ahead of each compound of a selector, up to where the selector ends.
// Whoever is told one must read the compound behind it ahead of asking for the next.
func (r *reader) combinators() iter.Seq[int] {
	return func(yield func(int) bool) {
		r.passWhite()
		for comb, more := api.CNone, true; more; comb, more = r.combinator() {
			if !yield(comb) {
				return
			}
		}
	}
}

// combinator reads what stands between two compounds; false: the selector ends here, behind its white.
func (r *reader) combinator() (int, bool) {
	white := r.passWhite()
	if comb, ok := combinatorOf(r.ahead()); ok {
		r.place++
		r.passWhite()
		return comb, true
	}
	if white && beginsCompound(r.ahead()) {
		return api.CWithin, true
	}
	return 0, false
}

// compound reads a tag and units (IDs, classes, attributes, pseudo-classes), one of them all at least.
func (r *reader) compound() (api.Compound, bool) {
	from := r.place
	c := api.Compound{Tag: r.tag()}
	for first := range r.units() {
		if !r.unit(&c, first) {
			return api.Compound{}, false
		}
	}
	return c, r.place > from
}

// tag reads a tag, if there is one ("": any).
func (r *reader) tag() string {
	if r.passesSign('*') {
		return ""
	}
	name, _ := r.pull(api.TIdent)
	return text.Lower(name.Text)
}

// units pulls one by one the tokens with which a compound's units begin, up to a token that begins none.
// Whoever is told one must read the rest of that unit ahead of asking for the next.
func (r *reader) units() iter.Seq[api.Token] {
	return func(yield func(api.Token) bool) {
		for first := r.ahead(); beginsUnit(first); first = r.ahead() {
			r.place++
			if !yield(first) {
				return
			}
		}
	}
}

// isSign tells whether the token is this code point.
func isSign(one api.Token, c int) bool {
	return one.Kind == api.TDelim && one.C == c
}

// beginsCompound tells whether a compound may begin with the token.
func beginsCompound(one api.Token) bool {
	return one.Kind == api.TIdent || isSign(one, '*') || beginsUnit(one)
}

// beginsUnit tells whether a unit of a compound, its tag aside, may begin with the token.
func beginsUnit(one api.Token) bool {
	switch one.Kind {
	case api.THash, api.TSquare, api.TColon:
		return true
	}
	return isSign(one, '.')
}

// combinatorOf tells the combinator that the token is; false: it is none.
func combinatorOf(one api.Token) (int, bool) {
	switch {
	case isSign(one, '>'):
		return api.CChild, true
	case isSign(one, '+'):
		return api.CNext, true
	case isSign(one, '~'):
		return api.CAfter, true
	}
	return 0, false
}
