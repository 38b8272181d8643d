package store

import (
	"math"
	"testing"

	"tapestrier/api"
)

func wantNew(t *testing.T, s *Store, x api.Style, want int) {
	t.Helper()
	if i := s.New(x); i != want {
		t.Errorf("P1901: New: %d, want %d", i, want)
	}
}

func wantHold(t *testing.T, s *Store, i int, want api.Errno) {
	t.Helper()
	if e := s.Hold(i); e != want {
		t.Errorf("P1901: Hold(%d): %v, want %v", i, e, want)
	}
}

func wantRelease(t *testing.T, s *Store, i int, want api.Errno) {
	t.Helper()
	if e := s.Release(i); e != want {
		t.Errorf("P1901: Release(%d): %v, want %v", i, e, want)
	}
}

// wantStruct asks of struct i, whose count is above 0.
func wantStruct(t *testing.T, s *Store, i int, x api.Style, count int) {
	t.Helper()
	if got, e := s.Get(i); got != x || e != api.OK {
		t.Errorf("P1901: Get(%d): %v, %v, want %v, OK", i, got, e, x)
	}
	if n := s.Count(i); n != count {
		t.Errorf("P1901: Count(%d): %d, want %d", i, n, count)
	}
}

// wantNone asks of structs that there are not, or whose count is 0, in every way: nothing is changed by it.
func wantNone(t *testing.T, s *Store, numbers ...int) {
	t.Helper()
	live := s.Live()
	for _, i := range numbers {
		wantHold(t, s, i, api.ErrNone)
		wantRelease(t, s, i, api.ErrNone)
		if x, e := s.Get(i); x != (api.Style{}) || e != api.ErrNone {
			t.Errorf("P1901: Get(%d): %v, %v, want zero, ErrNone", i, x, e)
		}
		if n := s.Count(i); n != 0 {
			t.Errorf("P1901: Count(%d): %d, want 0", i, n)
		}
	}
	wantLive(t, s, live)
}

func wantLive(t *testing.T, s *Store, want int) {
	t.Helper()
	if n := s.Live(); n != want {
		t.Errorf("P1901: Live: %d, want %d", n, want)
	}
}

// odd are numbers that no struct of a small store has.
func odd() []int {
	return []int{-1, -2, -4, -5, 1000, 1 << 31, 1 << 32, 1<<32 + 1, 1 << 62, math.MaxInt, math.MaxInt - 1, math.MinInt, math.MinInt + 1}
}

func TestP1901Example(t *testing.T) {
	var s Store
	wantNew(t, &s, api.Style{1}, 0)
	wantRelease(t, &s, 0, api.OK)
	wantHold(t, &s, 0, api.ErrNone)
}

func TestP1901Zero(t *testing.T) {
	var s Store
	for range 2 {
		wantNone(t, &s, 0, 1, 2)
		wantNone(t, &s, odd()...)
		wantLive(t, &s, 0)
	}
	wantNew(t, &s, api.Style{5}, 0)
	wantStruct(t, &s, 0, api.Style{5}, 1)
}

// TestP1901New: the numbers go up one by one, and one style may be in many structs.
func TestP1901New(t *testing.T) {
	var s Store
	for i := range 300 {
		wantNew(t, &s, api.Style{i % 3, -i}, i)
		wantLive(t, &s, i+1)
		wantNone(t, &s, i+1, i+2)
	}
	for i := range 300 {
		wantStruct(t, &s, i, api.Style{i % 3, -i}, 1)
	}
	wantNone(t, &s, odd()...)
}

// TestP1901SameStyle: structs with the same style are each of its own.
func TestP1901SameStyle(t *testing.T) {
	var s Store
	for i := range 4 {
		wantNew(t, &s, api.Style{7}, i)
	}
	wantRelease(t, &s, 1, api.OK)
	wantHold(t, &s, 2, api.OK)
	wantStruct(t, &s, 0, api.Style{7}, 1)
	wantNone(t, &s, 1)
	wantStruct(t, &s, 2, api.Style{7}, 2)
	wantStruct(t, &s, 3, api.Style{7}, 1)
	wantLive(t, &s, 3)
}

// TestP1901ZeroStyle: a style of zeros is one.
func TestP1901ZeroStyle(t *testing.T) {
	var s Store
	wantNew(t, &s, api.Style{}, 0)
	wantStruct(t, &s, 0, api.Style{}, 1)
	wantLive(t, &s, 1)
	wantHold(t, &s, 0, api.OK)
	wantStruct(t, &s, 0, api.Style{}, 2)
}

// TestP1901AllOfTheStyle: each property's number is told, however odd.
func TestP1901AllOfTheStyle(t *testing.T) {
	var s Store
	x := api.Style{math.MinInt, math.MaxInt, -1, 0, 1, 1 << 40, -1 << 40, 9}
	wantNew(t, &s, x, 0)
	wantHold(t, &s, 0, api.OK)
	wantStruct(t, &s, 0, x, 2)
}

// TestP1901Counts: a count goes up and down, and Live tells of it only when it comes to 0.
func TestP1901Counts(t *testing.T) {
	var s Store
	for i := range 6 {
		wantNew(t, &s, api.Style{i}, i)
	}
	for n := range 50 {
		wantStruct(t, &s, 5, api.Style{5}, n+1)
		wantHold(t, &s, 5, api.OK)
	}
	for n := range 50 {
		wantStruct(t, &s, 5, api.Style{5}, 51-n)
		wantRelease(t, &s, 5, api.OK)
		wantLive(t, &s, 6)
	}
	wantStruct(t, &s, 5, api.Style{5}, 1)
	wantRelease(t, &s, 5, api.OK)
	wantLive(t, &s, 5)
	for range 2 {
		wantNone(t, &s, 5)
	}
	for i := range 5 {
		wantStruct(t, &s, i, api.Style{i}, 1)
	}
}

// TestP1901NoneTwice: the number of a struct whose count came to 0 is never given again, the last one's neither.
func TestP1901NoneTwice(t *testing.T) {
	var s Store
	for i := range 200 {
		wantNew(t, &s, api.Style{i + 1}, i)
		wantRelease(t, &s, i, api.OK)
		wantLive(t, &s, 0)
	}
	for i := range 200 {
		wantNone(t, &s, i)
	}
	wantNew(t, &s, api.Style{-1}, 200)
	wantStruct(t, &s, 200, api.Style{-1}, 1)
	wantLive(t, &s, 1)
}

// TestP1901Errors: what can't be done gives no number away, and leaves every count.
func TestP1901Errors(t *testing.T) {
	var s Store
	wantNew(t, &s, api.Style{1}, 0)
	wantNew(t, &s, api.Style{2}, 1)
	wantRelease(t, &s, 0, api.OK)
	wantNone(t, &s, odd()...)
	wantNone(t, &s, 0, 2, 3)
	wantStruct(t, &s, 1, api.Style{2}, 1)
	wantNew(t, &s, api.Style{3}, 2)
	wantStruct(t, &s, 2, api.Style{3}, 1)
	wantLive(t, &s, 2)
}

// TestP1901Many: a store of very many is asked and told in short.
func TestP1901Many(t *testing.T) {
	const many = 200000
	var s Store
	for i := range many {
		wantNew(t, &s, api.Style{i}, i)
	}
	for i := range many {
		if i%3 != 0 {
			wantHold(t, &s, i, api.OK)
		}
		wantRelease(t, &s, i, api.OK)
	}
	wantLive(t, &s, many-(many+2)/3)
	for i := range many {
		if i%3 != 0 {
			wantStruct(t, &s, i, api.Style{i}, 1)
		} else if s.Count(i) != 0 {
			t.Fatalf("P1901: Count(%d): %d, want 0", i, s.Count(i))
		}
	}
}

// TestP1901NothingIsKept: of structs whose count came to 0 nothing stays, so that it matters not how many there were.
func TestP1901NothingIsKept(t *testing.T) {
	var s Store
	for i := range 5000 {
		wantNew(t, &s, api.Style{i}, i)
	}
	for i := range 5000 {
		wantRelease(t, &s, i, api.OK)
	}
	if s.structs.top != nil {
		t.Error("P1901: something is kept of what is gone")
	}
}

func TestP1902TwoStores(t *testing.T) {
	var a, b Store
	wantNew(t, &a, api.Style{1}, 0)
	wantNew(t, &a, api.Style{2}, 1)
	wantNone(t, &b, 0, 1)
	wantNew(t, &b, api.Style{3}, 0)
	wantHold(t, &b, 0, api.OK)
	wantRelease(t, &a, 0, api.OK)
	wantNone(t, &a, 0)
	wantNone(t, &b, 1)
	wantStruct(t, &a, 1, api.Style{2}, 1)
	wantStruct(t, &b, 0, api.Style{3}, 2)
	wantLive(t, &a, 1)
	wantLive(t, &b, 1)
}

// TestP1902CopiedStore: a copy knows what the store was told up to then, and from there on each has its own.
func TestP1902CopiedStore(t *testing.T) {
	var a Store
	for i := range 3 {
		wantNew(t, &a, api.Style{i}, i)
	}
	b, c := a, a
	wantNew(t, &a, api.Style{30}, 3)
	wantNew(t, &b, api.Style{31}, 3)
	wantHold(t, &a, 0, api.OK)
	wantRelease(t, &b, 0, api.OK)
	wantRelease(t, &c, 1, api.OK)
	wantNew(t, &c, api.Style{32}, 3)
	wantHold(t, &c, 3, api.OK)

	wantStruct(t, &a, 0, api.Style{0}, 2)
	wantStruct(t, &a, 1, api.Style{1}, 1)
	wantStruct(t, &a, 3, api.Style{30}, 1)
	wantLive(t, &a, 4)
	wantNone(t, &b, 0)
	wantStruct(t, &b, 1, api.Style{1}, 1)
	wantStruct(t, &b, 3, api.Style{31}, 1)
	wantLive(t, &b, 3)
	wantStruct(t, &c, 0, api.Style{0}, 1)
	wantNone(t, &c, 1)
	wantStruct(t, &c, 3, api.Style{32}, 2)
	wantLive(t, &c, 3)
}

// TestP1902Styles: a style that is handed in or answered may be turned, and the store has what it had.
func TestP1902Styles(t *testing.T) {
	var s Store
	x := api.Style{1, 2, 3}
	wantNew(t, &s, x, 0)
	x[0] = 9
	got, _ := s.Get(0)
	got[1] = 9
	wantStruct(t, &s, 0, api.Style{1, 2, 3}, 1)
}
