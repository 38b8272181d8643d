package tok

import (
	"tapestrier/api"
	"tapestrier/num"
	"tapestrier/text"
)

// end is told in the stead of a code point where there is none any more: it is of no kind.
const end = -1

// maxDigits is how many digits of an escape belong to its number.
const maxDigits = 6

// reader goes over code points from the left.
type reader struct {
	points []int
	place  int
}

// ahead tells the code point that stands n behind the place.
func (r *reader) ahead(n int) int {
	if n >= len(r.points)-r.place {
		return end
	}
	return settled(r.points[r.place+n])
}

// take tells the code point at the place, which is not the end, and goes behind it.
func (r *reader) take() int {
	p := r.ahead(0)
	r.place++
	return p
}

// passComments goes behind all comments that begin at the place.
func (r *reader) passComments() {
	for r.ahead(0) == '/' && r.ahead(1) == '*' {
		r.place += 2
		r.passComment()
	}
}

// passComment goes behind the comment whose beginning is passed already: its `*` does not end it.
func (r *reader) passComment() {
	for ; r.ahead(0) != end; r.place++ {
		if r.ahead(0) == '*' && r.ahead(1) == '/' {
			r.place += 2
			return
		}
	}
}

// token tells the token that begins at the place, which is not the end, and goes behind it.
func (r *reader) token() api.Token {
	switch p := r.ahead(0); {
	case isWhite(p):
		return r.white()
	case p == '"' || p == '\'':
		return r.quoted()
	case p == '#' && (isNamePoint(r.ahead(1)) || r.escapes(1)):
		return r.marked(api.THash)
	case r.numberBegins():
		return r.number()
	case p == '@' && r.nameBegins(1):
		return r.marked(api.TAt)
	case r.nameBegins(0):
		return r.named()
	}
	return r.single()
}

// white reads all White side by side.
func (r *reader) white() api.Token {
	for isWhite(r.ahead(0)) {
		r.place++
	}
	return api.Token{Kind: api.TWhite}
}

// quoted reads a string, up to the sign that it begins with.
func (r *reader) quoted() api.Token {
	sign := r.take()
	var held []int
	for r.ahead(0) != sign && r.ahead(0) != end {
		switch {
		case r.ahead(0) == newline:
			return api.Token{Kind: api.TBad}
		case r.escapes(0):
			held = append(held, r.escape())
		case r.ahead(0) == '\\':
			r.passLineEnd()
		default:
			held = append(held, r.take())
		}
	}
	if r.ahead(0) == sign {
		r.place++
	}
	return api.Token{Kind: api.TString, Text: encoded(held)}
}

// passLineEnd goes behind a `\` that is no right escape, and behind the 10 that it takes away, if it is not the last.
func (r *reader) passLineEnd() {
	r.place++
	if r.ahead(0) == newline {
		r.place++
	}
}

// marked reads a name with a sign ahead of it.
func (r *reader) marked(kind int) api.Token {
	r.place++
	return api.Token{Kind: kind, Text: r.name()}
}

// named reads a name, and the `(` that makes a function of it.
func (r *reader) named() api.Token {
	name := r.name()
	if r.ahead(0) != '(' {
		return api.Token{Kind: api.TIdent, Text: name}
	}
	r.place++
	return api.Token{Kind: api.TFunc, Text: name}
}

// number reads a number, and the unit or the `%` behind it.
func (r *reader) number() api.Token {
	n, whole := r.amount()
	if r.nameBegins(0) {
		return api.Token{Kind: api.TDim, N: n, Text: r.name()}
	}
	if r.ahead(0) == '%' {
		r.place++
		return api.Token{Kind: api.TPercent, N: n}
	}
	return api.Token{Kind: api.TNumber, N: n, Whole: whole}
}

// amount reads a number's sign and digits, and tells whether there is no point among them.
func (r *reader) amount() (n int, whole bool) {
	from := r.place
	if isSign(r.ahead(0)) {
		r.place++
	}
	r.passDigits()
	whole = !r.fractionBegins(0)
	if !whole {
		r.place++
		r.passDigits()
	}
	n, _ = num.Of(encoded(r.points[from:r.place]))
	return n, whole
}

func (r *reader) passDigits() {
	for isDigit(r.ahead(0)) {
		r.place++
	}
}

// single reads one code point that begins nothing longer.
func (r *reader) single() api.Token {
	p := r.take()
	if kind, ok := kindOf(p); ok {
		return api.Token{Kind: kind}
	}
	return api.Token{Kind: api.TDelim, C: p}
}

// name reads name points and right escapes, as many as there are.
func (r *reader) name() string {
	var held []int
	for {
		switch {
		case isNamePoint(r.ahead(0)):
			held = append(held, r.take())
		case r.escapes(0):
			held = append(held, r.escape())
		default:
			return encoded(held)
		}
	}
}

// escape reads a right escape, and tells the code point that it stands for.
func (r *reader) escape() int {
	r.place++
	if _, ok := hexDigit(r.ahead(0)); !ok {
		return r.take()
	}
	n := r.hexNumber()
	if isWhite(r.ahead(0)) {
		r.place++
	}
	if n == 0 {
		return substitute
	}
	return settled(n)
}

// hexNumber reads an escape's digits.
func (r *reader) hexNumber() int {
	n := 0
	for range maxDigits {
		digit, ok := hexDigit(r.ahead(0))
		if !ok {
			break
		}
		n = 16*n + digit
		r.place++
	}
	return n
}

// escapes tells whether a right escape stands n behind the place.
func (r *reader) escapes(n int) bool {
	behind := r.ahead(n + 1)
	return r.ahead(n) == '\\' && behind != newline && behind != end
}

// nameBegins tells whether a name begins n behind the place.
func (r *reader) nameBegins(n int) bool {
	if r.ahead(n) != '-' {
		return r.nameStarts(n)
	}
	return r.ahead(n+1) == '-' || r.nameStarts(n+1)
}

// nameStarts tells whether a name start or a right escape stands n behind the place.
func (r *reader) nameStarts(n int) bool {
	return isNameStart(r.ahead(n)) || r.escapes(n)
}

// numberBegins tells whether a number begins at the place.
func (r *reader) numberBegins() bool {
	n := 0
	if isSign(r.ahead(0)) {
		n = 1
	}
	return isDigit(r.ahead(n)) || r.fractionBegins(n)
}

// fractionBegins tells whether a `.` and a digit stand n behind the place.
func (r *reader) fractionBegins(n int) bool {
	return r.ahead(n) == '.' && isDigit(r.ahead(n+1))
}

// isSign tells whether p may stand ahead of a number's digits.
func isSign(p int) bool {
	return p == '+' || p == '-'
}

// encoded tells the points as the text of a token.
func encoded(points []int) string {
	return string(text.Bytes(points))
}
