package bloom

import (
	"math"
	"slices"
	"testing"

	"tapestrier/api"
)

// hash makes the hash of these two counters.
func hash(first, second int) int { return first + api.Counters*second }

// wantCounts asks whether the filter has just these counters above 0.
func wantCounts(t *testing.T, f *Filter, want map[int]int) {
	t.Helper()
	for i := -2; i < api.Counters+2; i++ {
		if got := f.Count(i); got != want[i] {
			t.Errorf("Count(%d): %d, want %d", i, got, want[i])
		}
	}
}

func wantMay(t *testing.T, f *Filter, want bool, l ...int) {
	t.Helper()
	for _, h := range l {
		if f.May(h) != want {
			t.Errorf("May(%d): %v", h, !want)
		}
	}
}

// anyInts are ints of all sizes.
func anyInts() []int {
	return []int{0, 1, 5, 1023, 1024, 1025, 1 << 20, 1<<20 - 1, 1 << 31, 1<<32 - 1, 1 << 32, 1<<32 + 1, 1 << 40, -1, -2, -1023, -1024, -1025, -1 << 31, -1 << 32, math.MinInt, math.MinInt + 1, math.MaxInt, math.MaxInt - 1}
}

func TestP1302Zero(t *testing.T) {
	var f Filter
	wantCounts(t, &f, nil)
	wantMay(t, &f, false, anyInts()...)
	f.Push(nil)
	f.Push([]int{})
	f.Pop(nil)
	f.Pop([]int{})
	f.Pop(anyInts())
	wantCounts(t, &f, nil)
	wantMay(t, &f, false, anyInts()...)
}

func TestP1302TwoCounters(t *testing.T) {
	var f Filter
	f.Push([]int{hash(3, 7)})
	wantCounts(t, &f, map[int]int{3: 1, 7: 1})
	wantMay(t, &f, true, hash(3, 7), hash(7, 3), hash(3, 3), hash(7, 7), hash(3, 7)+1<<20, hash(3, 7)+1<<31)
	wantMay(t, &f, false, 0, 3, 7, hash(3, 8), hash(8, 3), hash(7, 0), hash(0, 7), hash(2, 2))
	f.Push([]int{hash(7, 9), hash(3, 7)})
	wantCounts(t, &f, map[int]int{3: 2, 7: 3, 9: 1})
	wantMay(t, &f, true, hash(3, 9), hash(9, 7))
	f.Pop([]int{hash(3, 7), hash(3, 7)})
	wantCounts(t, &f, map[int]int{7: 1, 9: 1})
	wantMay(t, &f, true, hash(7, 9))
	wantMay(t, &f, false, hash(3, 7))
	f.Pop([]int{hash(7, 9)})
	wantCounts(t, &f, nil)
}

// TestP1302OneCounter: a hash whose two counters are one counts once, and needs that one alone.
func TestP1302OneCounter(t *testing.T) {
	var f Filter
	f.Push([]int{0, hash(5, 5), hash(1023, 1023)})
	wantCounts(t, &f, map[int]int{0: 1, 5: 1, 1023: 1})
	wantMay(t, &f, true, 0, hash(5, 5), hash(1023, 1023), hash(5, 0), hash(0, 1023))
	wantMay(t, &f, false, hash(4, 4), hash(5, 4))
	f.Push([]int{hash(5, 5)})
	f.Pop([]int{hash(5, 5), 0})
	wantCounts(t, &f, map[int]int{5: 1, 1023: 1})
}

// TestP1302LowBits: of a hash the lowest 32 bits count; of these the highest 12 don't.
func TestP1302LowBits(t *testing.T) {
	for _, h := range anyInts() {
		low := h & 0xFFFFFFFF
		want := map[int]int{low % 1024: 1, low / 1024 % 1024: 1}
		var f Filter
		f.Push([]int{h})
		wantCounts(t, &f, want)
		wantMay(t, &f, true, h, low, low%(1<<20))
		f.Pop([]int{low})
		wantCounts(t, &f, nil)
		f.Push([]int{low})
		wantCounts(t, &f, want)
		wantMay(t, &f, true, h)
		f.Pop([]int{h})
		wantCounts(t, &f, nil)
	}
	var f Filter
	f.Push([]int{-1, math.MinInt, -1024})
	wantCounts(t, &f, map[int]int{1023: 2, 0: 2})
}

func TestP1302CountOfNone(t *testing.T) {
	var f Filter
	for i := range api.Counters {
		f.Push([]int{hash(i, i)})
	}
	for _, i := range []int{-1, -1024, api.Counters, api.Counters + 1, 1 << 32, 1<<32 + 5, math.MinInt, math.MaxInt} {
		if got := f.Count(i); got != 0 {
			t.Errorf("Count(%d): %d", i, got)
		}
	}
	for i := range api.Counters {
		if got := f.Count(i); got != 1 {
			t.Errorf("Count(%d): %d", i, got)
		}
	}
}

// TestP1302Full: a counter grows up to Full, and stays there; one that is one less still goes down.
func TestP1302Full(t *testing.T) {
	var f Filter
	h := hash(3, 7)
	for k := range api.Full - 1 {
		f.Push([]int{h})
		if f.Count(3) != k+1 || f.Count(7) != k+1 {
			t.Fatalf("behind %d: %d, %d", k+1, f.Count(3), f.Count(7))
		}
	}
	f.Pop([]int{h})
	wantCounts(t, &f, map[int]int{3: 253, 7: 253})
	f.Push([]int{h, hash(7, 9), h})
	wantCounts(t, &f, map[int]int{3: 255, 7: 255, 9: 1})
	f.Pop([]int{h, hash(3, 9)})
	wantCounts(t, &f, map[int]int{3: 255, 7: 255})
	f.Push(slices.Repeat([]int{h, hash(7, 5)}, 300))
	wantCounts(t, &f, map[int]int{3: 255, 5: 255, 7: 255})
	f.Push([]int{hash(4, 7)})
	f.Pop(slices.Repeat([]int{h, hash(5, 7), hash(4, 3)}, 600))
	wantCounts(t, &f, map[int]int{3: 255, 5: 255, 7: 255})
	wantMay(t, &f, true, h, hash(5, 5))
}

// TestP1302InOneList: a list is gone through hash by hash, in one call as in many.
func TestP1302InOneList(t *testing.T) {
	l := slices.Repeat([]int{hash(1, 2), hash(2, 3), hash(3, 1), hash(4, 4)}, 100)
	var one, many Filter
	one.Push(l)
	for _, h := range l {
		many.Push([]int{h})
	}
	wantCounts(t, &one, map[int]int{1: 200, 2: 200, 3: 200, 4: 100})
	wantCounts(t, &many, map[int]int{1: 200, 2: 200, 3: 200, 4: 100})
	one.Pop(l)
	for _, h := range l {
		many.Pop([]int{h})
	}
	wantCounts(t, &one, nil)
	wantCounts(t, &many, nil)
}

// TestP1302AskingChangesNothing: neither May nor Count is seen in a later answer.
func TestP1302AskingChangesNothing(t *testing.T) {
	var f Filter
	f.Push([]int{hash(1, 2)})
	before := f
	for range 300 {
		wantMay(t, &f, true, hash(1, 2))
		wantMay(t, &f, false, hash(1, 3))
		f.Count(1)
		f.Count(-1)
	}
	if f != before {
		t.Error("the filter has changed")
	}
}

func TestP1303ListsStay(t *testing.T) {
	var f Filter
	l := []int{hash(1, 2), -1, 1 << 40, 77}[:3]
	want := slices.Clone(l[:4])
	f.Push(l)
	f.Pop(l)
	f.Push(l)
	wantHashes(t, "the list behind the calls", l[:4], want...)
	for i := range l {
		l[i] = hash(9, 9)
	}
	wantMay(t, &f, true, want[:3]...)
	wantMay(t, &f, false, hash(9, 9))
}

func TestP1303TwoFilters(t *testing.T) {
	var a, b Filter
	a.Push([]int{hash(1, 2), hash(3, 3)})
	wantCounts(t, &b, nil)
	b.Push([]int{hash(1, 2)})
	b.Pop([]int{hash(1, 2), hash(3, 3)})
	wantCounts(t, &a, map[int]int{1: 1, 2: 1, 3: 1})
	wantCounts(t, &b, nil)
	c := a
	c.Pop([]int{hash(3, 3)})
	a.Push([]int{hash(1, 2)})
	wantCounts(t, &a, map[int]int{1: 2, 2: 2, 3: 1})
	wantCounts(t, &c, map[int]int{1: 1, 2: 1})
}
