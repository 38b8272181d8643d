package value

// whole are the kinds of numbers that bounds are asked of here: ints, and the bytes of texts.
type whole interface {
	~int | ~uint8
}

// cut tells n, at least least and at most most.
func cut[N whole](n, least, most N) N {
	return max(least, min(n, most))
}

// within tells whether n is at least least and at most most.
func within[N whole](n, least, most N) bool {
	return cut(n, least, most) == n
}
