package num

import "tapestrier/api"

// signed are the kinds of numbers that hold api.MaxNum and -api.MaxNum.
type signed interface {
	~int32 | ~int | ~int64
}

// held tells n within the bounds, as another kind of number.
// It is held ahead of being turned into the other kind, so that nothing of it is cut off.
func held[To, From signed](n From) To {
	return To(max(-api.MaxNum, min(n, api.MaxNum)))
}

// grown tells the number that n is with the digits written behind it.
// It is held at each digit, so that no text is too long: a number at the bound does not come back from there.
func grown(n int, digits string) int {
	for i := range len(digits) {
		n = held[int](10*int64(n) + int64(digits[i]-'0'))
	}
	return n
}
