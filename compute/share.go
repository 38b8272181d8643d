package compute

import "tapestrier/num"

// ems are thousandths of a length, percents are thousandths of its hundredths.
type (
	ems      int
	percents int
)

// parts are the kinds of numbers that tell how much of a length is meant.
type parts interface {
	ems | percents
}

// share tells n of a length that has whole of them.
// The product is held within the bounds ahead of being divided, as the document asks: percents of a great length come out smaller than they are.
func share[P parts](n, whole P, length int) int {
	return num.Times(length, int(n)) / int(whole)
}
