// Package text is layer 1: it makes code points of bytes, and bytes of code points.
package text

import (
	"iter"
	"unicode/utf8"
)

// Code points that a sheet must not hold, and what stands in their stead.
const (
	null       = 0
	newline    = 10
	formFeed   = 12
	carriage   = 13
	substitute = 65533
)

// Points tells the code points of b as UTF-8; a byte with which no right encoding begins is 65533.
func Points(b []byte) []int {
	return gather(decoded(b), len(b))
}

// Prepare tells the code points of b as a sheet's reader wants them: every line's end is one 10, and there is no 0.
func Prepare(b []byte) []int {
	return gather(prepared(decoded(b)), len(b))
}

// Bytes tells the code points of l as UTF-8; a number that is no code point is 65533.
func Bytes(l []int) []byte {
	out := make([]byte, 0, len(l))
	for _, n := range l {
		out = utf8.AppendRune(out, encodable(n))
	}
	return out
}

// Lower tells s with its bytes A to Z as a to z.
// It goes by bytes, not by code points, so that bytes which are no right encoding stay as they are.
func Lower(s string) string {
	out := []byte(s)
	for i, c := range out {
		if 'A' <= c && c <= 'Z' {
			out[i] = c + ('a' - 'A')
		}
	}
	return string(out)
}

// decoded tells the code points of b one by one.
func decoded(b []byte) iter.Seq[int] {
	return func(yield func(int) bool) {
		for i := 0; i < len(b); {
			r, size := utf8.DecodeRune(b[i:])
			if !yield(int(r)) {
				return
			}
			i += size
		}
	}
}

// prepared tells the points one by one as Prepare wants them.
// A 13 is told at once, as 10, and a 10 right behind it is left out: so nobody must look ahead.
func prepared(points iter.Seq[int]) iter.Seq[int] {
	return func(yield func(int) bool) {
		behindCarriage := false
		for p := range points {
			told := behindCarriage && p == newline
			behindCarriage = p == carriage
			if told {
				continue
			}
			if !yield(replaced(p)) {
				return
			}
		}
	}
}

// replaced tells what stands for the one point p in a prepared text.
func replaced(p int) int {
	switch p {
	case carriage, formFeed:
		return newline
	case null:
		return substitute
	}
	return p
}

// gather lists what the iterator tells: room is the most that it will tell.
func gather(points iter.Seq[int], room int) []int {
	out := make([]int, 0, room)
	for p := range points {
		out = append(out, p)
	}
	return out
}

// encodable tells n as a rune that has an encoding.
// The bounds are asked ahead of the conversion, which would cut a great number down to some other code point.
func encodable(n int) rune {
	if n < 0 || n > utf8.MaxRune || !utf8.ValidRune(rune(n)) {
		return substitute
	}
	return rune(n)
}
