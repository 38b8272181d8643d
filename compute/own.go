package compute

import "tapestrier/api"

// Words, and percents of what is not known here, stand where no number lies that a sheet can set.
const (
	autoWidth      = -1
	percentsWidth  = -2 // percents go down from here
	percentsMargin = 1 << 40
	autoIndex      = 1 << 40
)

// own tells what the property is by a value of that kind and number, but for the words that all properties have (false: it has no values of that kind).
func own(prop, kind, n, em int) (int, bool) {
	switch kind {
	case api.VKey:
		return key(prop, n)
	case api.VPx:
		return length(prop, n)
	case api.VEm:
		return length(prop, share(ems(n), 1, em))
	case api.VPercent:
		return percentage(prop, n, em)
	case api.VNumber:
		return number(prop, n)
	case api.VColor:
		return color(prop, n)
	}
	return 0, false
}

// key tells what the property is by the word of that number: width and z-index have one word alone.
func key(prop, n int) (int, bool) {
	switch prop {
	case api.PAlign, api.PDisplay:
		return n, true
	case api.PWidth:
		return autoWidth, true
	case api.PIndex:
		return autoIndex, true
	}
	return 0, false
}

// length tells what the property is by a length.
func length(prop, n int) (int, bool) {
	switch prop {
	case api.PSize, api.PWidth, api.PMargin:
		return n, true
	}
	return 0, false
}

// percentage tells what the property is by percents: of the font-size alone is it known what they are of.
func percentage(prop, n, em int) (int, bool) {
	switch prop {
	case api.PSize:
		return share(percents(n), 100, em), true
	case api.PWidth:
		return percentsWidth - n, true
	case api.PMargin:
		return percentsMargin + n, true
	}
	return 0, false
}

// number tells what the property is by a number of nothing.
func number(prop, n int) (int, bool) {
	switch prop {
	case api.POpacity, api.PIndex:
		return n, true
	}
	return 0, false
}

// color tells what the property is by a color.
func color(prop, n int) (int, bool) {
	if prop != api.PColor {
		return 0, false
	}
	return n, true
}
