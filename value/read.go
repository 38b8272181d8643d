package value

import (
	"tapestrier/api"
	"tapestrier/text"
)

// every stands in the place of a property: all of them are meant.
const every = -1

// opaque is the greatest opacity, in thousandths.
const opaque = 1000

// words are the words that are values, and of which property.
var words = [...]struct {
	prop int
	word string
	is   api.Value
}{
	{every, "inherit", api.Value{Kind: api.VInherit}},
	{every, "initial", api.Value{Kind: api.VInitial}},
	{every, "unset", api.Value{Kind: api.VUnset}},
	{api.PColor, "black", api.Value{Kind: api.VColor, N: 0}},
	{api.PColor, "white", api.Value{Kind: api.VColor, N: 0xffffff}},
	{api.PColor, "red", api.Value{Kind: api.VColor, N: 0xff0000}},
	{api.PColor, "green", api.Value{Kind: api.VColor, N: 0x008000}},
	{api.PColor, "blue", api.Value{Kind: api.VColor, N: 0x0000ff}},
	{api.PAlign, "left", api.Value{Kind: api.VKey, N: 0}},
	{api.PAlign, "right", api.Value{Kind: api.VKey, N: 1}},
	{api.PAlign, "center", api.Value{Kind: api.VKey, N: 2}},
	{api.PDisplay, "none", api.Value{Kind: api.VKey, N: 0}},
	{api.PDisplay, "block", api.Value{Kind: api.VKey, N: 1}},
	{api.PDisplay, "inline", api.Value{Kind: api.VKey, N: 2}},
	{api.PWidth, "auto", api.Value{Kind: api.VKey, N: 0}},
	{api.PIndex, "auto", api.Value{Kind: api.VKey, N: 0}},
}

// read tells the value that one token is to the property; false: it is none.
func read(prop int, one api.Token) (api.Value, bool) {
	switch one.Kind {
	case api.TIdent:
		return word(prop, text.Lower(one.Text))
	case api.THash:
		return color(prop, one.Text)
	case api.TDim:
		switch text.Lower(one.Text) {
		case "px":
			return length(prop, api.VPx, one.N)
		case "em":
			return length(prop, api.VEm, one.N)
		}
	case api.TPercent:
		return length(prop, api.VPercent, one.N)
	case api.TNumber:
		return number(prop, one.N, one.Whole)
	}
	return api.Value{}, false
}

// word reads a word of small letters.
func word(prop int, s string) (api.Value, bool) {
	for _, row := range words {
		if (row.prop == prop || row.prop == every) && row.word == s {
			return row.is, true
		}
	}
	return api.Value{}, false
}

// color reads the digits of a color: three of them stand for six, each for two of its kind.
func color(prop int, digits string) (api.Value, bool) {
	if prop != api.PColor || len(digits) != 3 && len(digits) != 6 {
		return api.Value{}, false
	}
	n := 0
	for i := range len(digits) {
		d, ok := digit(digits[i])
		if !ok {
			return api.Value{}, false
		}
		n = 16*n + d
		if len(digits) == 3 {
			n = 16*n + d
		}
	}
	return api.Value{Kind: api.VColor, N: n}, true
}

// digit reads one of sixteen digits.
func digit(c byte) (int, bool) {
	switch {
	case within(c, '0', '9'):
		return int(c - '0'), true
	case within(c, 'a', 'f'):
		return int(c-'a') + 10, true
	case within(c, 'A', 'F'):
		return int(c-'A') + 10, true
	}
	return 0, false
}

// length reads a number of something whose kind is a value's: a margin alone may be below 0.
func length(prop, kind, n int) (api.Value, bool) {
	takes := prop == api.PMargin || n >= 0 && (prop == api.PSize || prop == api.PWidth)
	if !takes {
		return api.Value{}, false
	}
	return api.Value{Kind: kind, N: n}, true
}

// number reads a number of nothing: 0 is a length also without a unit, but to a margin alone.
func number(prop, n int, isWhole bool) (api.Value, bool) {
	switch {
	case prop == api.PMargin && n == 0:
		return api.Value{Kind: api.VPx}, true
	case prop == api.POpacity:
		return api.Value{Kind: api.VNumber, N: cut(n, 0, opaque)}, true
	case prop == api.PIndex && isWhole:
		return api.Value{Kind: api.VNumber, N: n}, true
	}
	return api.Value{}, false
}
