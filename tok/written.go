package tok

import (
	"tapestrier/api"
	"tapestrier/num"
)

// signs are the code points that are tokens of their own, and the kinds of these.
var signs = [...]struct{ point, kind int }{
	{':', api.TColon},
	{';', api.TSemi},
	{',', api.TComma},
	{'{', api.TOpen},
	{'}', api.TClose},
	{'(', api.TParen},
	{')', api.TEnd},
	{'[', api.TSquare},
	{']', api.TBack},
}

// kindOf tells the kind of token that the code point p is of itself (false: of none).
func kindOf(p int) (int, bool) {
	for _, s := range signs {
		if s.point == p {
			return s.kind, true
		}
	}
	return 0, false
}

// signOf tells the code point that tokens of that kind are, as a text (nothing: there is none).
func signOf(kind int) string {
	for _, s := range signs {
		if s.kind == kind {
			return encoded([]int{s.point})
		}
	}
	return ""
}

// written tells one token as a text (nothing: of no known kind).
func written(t api.Token) string {
	switch t.Kind {
	case api.TIdent:
		return t.Text
	case api.TAt:
		return "@" + t.Text
	case api.THash:
		return "#" + t.Text
	case api.TString:
		return `"` + t.Text + `"`
	case api.TBad:
		return `"`
	case api.TNumber:
		return num.Text(t.N)
	case api.TPercent:
		return num.Text(t.N) + "%"
	case api.TDim:
		return num.Text(t.N) + t.Text
	case api.TWhite:
		return " "
	case api.TDelim:
		return encoded([]int{t.C})
	case api.TFunc:
		return t.Text + "("
	}
	return signOf(t.Kind)
}
