package bloom

import (
	"iter"

	"tapestrier/api"
)

// Filter counts hashes that come and go, more or less: it may take one for there that is not, but, unless more is popped than was pushed, never the other way round. A zero Filter has none.
type Filter struct {
	counters [api.Counters]uint8 // each at most api.Full
}

// Push counts each of the hashes l once more.
func (f *Filter) Push(l []int) {
	for i := range countersOfAll(l) {
		if f.counters[i] < api.Full {
			f.counters[i]++
		}
	}
}

// Pop counts each of the hashes l once less.
// A counter that is Full may have been due to count further: taken down, it could come to 0 while somebody needs it.
func (f *Filter) Pop(l []int) {
	for i := range countersOfAll(l) {
		if f.counters[i] > 0 && f.counters[i] < api.Full {
			f.counters[i]--
		}
	}
}

// May tells whether the hash h may be there.
func (f *Filter) May(h int) bool {
	for i := range countersOf(h) {
		if f.counters[i] == 0 {
			return false
		}
	}
	return true
}

// Count tells what stands in the counter i (0: there is no such one).
func (f *Filter) Count(i int) int {
	if i < 0 || i >= len(f.counters) {
		return 0
	}
	return int(f.counters[i])
}

// countersOf tells one by one the counters of the hash h, of which only the lowest 32 bits count.
func countersOf(h int) iter.Seq[uint32] {
	low := uint32(h)
	first, second := low%api.Counters, low/api.Counters%api.Counters
	return func(yield func(uint32) bool) {
		if yield(first) && second != first {
			yield(second)
		}
	}
}

// countersOfAll tells one by one the counters of each of the hashes l.
func countersOfAll(l []int) iter.Seq[uint32] {
	return func(yield func(uint32) bool) {
		for _, h := range l {
			for i := range countersOf(h) {
				if !yield(i) {
					return
				}
			}
		}
	}
}
