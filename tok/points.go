package tok

import "unicode/utf8"

// Code points that have no plain sign of their own, and what stands in the stead of those that are none.
const (
	tab        = 9
	newline    = 10
	space      = 32
	substitute = 65533
)

// The code points that stand for no character: they are there for an encoding of 16 bits.
const (
	firstSurrogate = 55296
	lastSurrogate  = 57343
)

// settled tells p as a code point.
func settled(p int) int {
	if p < 0 || p > utf8.MaxRune || firstSurrogate <= p && p <= lastSurrogate {
		return substitute
	}
	return p
}

func isWhite(p int) bool {
	return p == tab || p == newline || p == space
}

func isDigit(p int) bool {
	return '0' <= p && p <= '9'
}

func isNameStart(p int) bool {
	return 'a' <= p && p <= 'z' || 'A' <= p && p <= 'Z' || p == '_' || p >= utf8.RuneSelf
}

func isNamePoint(p int) bool {
	return isNameStart(p) || isDigit(p) || p == '-'
}

// hexDigit tells the number of the digit p, of 16 (false: it is none).
func hexDigit(p int) (int, bool) {
	switch {
	case isDigit(p):
		return p - '0', true
	case 'a' <= p && p <= 'f':
		return p - 'a' + 10, true
	case 'A' <= p && p <= 'F':
		return p - 'A' + 10, true
	}
	return 0, false
}
