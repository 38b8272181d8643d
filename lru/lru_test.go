package lru

import (
	"math"
	"slices"
	"strconv"
	"testing"
)

// wantPut puts, and asks which key goes.
func wantPut(t *testing.T, c *Cache, k, v, gone int) {
	t.Helper()
	if key, ok := c.Put(k, v); key != gone || !ok {
		t.Errorf("P1801: Put(%d, %d): %d, %v, want %d, true", k, v, key, ok, gone)
	}
}

// wantRoom puts, and asks whether none goes.
func wantRoom(t *testing.T, c *Cache, k, v int) {
	t.Helper()
	if key, ok := c.Put(k, v); key != 0 || ok {
		t.Errorf("P1801: Put(%d, %d): %d, %v, want 0, false", k, v, key, ok)
	}
}

func wantGet(t *testing.T, c *Cache, k, v int) {
	t.Helper()
	if got, ok := c.Get(k); got != v || !ok {
		t.Errorf("P1801: Get(%d): %d, %v, want %d, true", k, got, ok, v)
	}
}

func wantNothing(t *testing.T, c *Cache, keys ...int) {
	t.Helper()
	for _, k := range keys {
		if got, ok := c.Get(k); got != 0 || ok {
			t.Errorf("P1801: Get(%d): %d, %v, want 0, false", k, got, ok)
		}
	}
}

func wantKeys(t *testing.T, c *Cache, keys ...int) {
	t.Helper()
	if got := c.Keys(); !slices.Equal(got, keys) {
		t.Errorf("P1801: Keys: %v, want %v", got, keys)
	}
	if got := c.Len(); got != len(keys) {
		t.Errorf("P1801: Len: %d, want %d", got, len(keys))
	}
}

func TestP1801Example(t *testing.T) {
	c := New(1)
	wantRoom(t, c, 1, 5)
	wantPut(t, c, 2, 6, 1)
	wantKeys(t, c, 2)
	wantGet(t, c, 2, 6)
	wantNothing(t, c, 1)
}

func TestP1801New(t *testing.T) {
	c := New(3)
	wantKeys(t, c)
	wantNothing(t, c, 0, 1, -1, math.MinInt, math.MaxInt)
	wantKeys(t, c)
}

// TestP1801Sizes: as many are kept as the size says, and no more; the size is cut.
func TestP1801Sizes(t *testing.T) {
	for _, r := range []struct{ size, want int }{
		{math.MinInt, 0}, {-1024, 0}, {-1, 0}, {0, 0}, {1, 1}, {2, 2}, {8, 8}, {255, 255}, {1023, 1023}, {1024, 1024}, {1025, 1024}, {2048, 1024}, {1<<32 + 1, 1024}, {math.MaxInt, 1024},
	} {
		t.Run(strconv.Itoa(r.size), func(t *testing.T) {
			c := New(r.size)
			for k := range r.want {
				wantRoom(t, c, k+1, -k)
			}
			for k := range 2000 {
				wantPut(t, c, r.want+k+1, 7, k+1)
				if c.Len() != r.want || len(c.Keys()) != r.want {
					t.Fatalf("P1801: %d and %v", c.Len(), c.Keys())
				}
			}
		})
	}
}

// TestP1801SizeNone: in a cache of none nothing stays.
func TestP1801SizeNone(t *testing.T) {
	var zero Cache
	for _, c := range []*Cache{New(0), New(-7), &zero, new(Cache)} {
		for _, k := range []int{5, 0, 5, -1, math.MinInt, math.MaxInt} {
			wantPut(t, c, k, 9, k)
			wantNothing(t, c, k)
			wantKeys(t, c)
		}
	}
}

// TestP1801Get: what is asked for is the first one then, wherever it stood; the others stay in their order.
func TestP1801Get(t *testing.T) {
	made := func() *Cache {
		c := New(5)
		for k := range 5 {
			wantRoom(t, c, k, 10*k)
		}
		wantKeys(t, c, 4, 3, 2, 1, 0)
		return c
	}
	for k, keys := range [][]int{{0, 4, 3, 2, 1}, {1, 4, 3, 2, 0}, {2, 4, 3, 1, 0}, {3, 4, 2, 1, 0}, {4, 3, 2, 1, 0}} {
		c := made()
		for range 3 {
			wantGet(t, c, k, 10*k)
			wantKeys(t, c, keys...)
		}
		wantPut(t, c, 77, 1, keys[4])
		wantKeys(t, c, 77, keys[0], keys[1], keys[2], keys[3])
	}
}

// TestP1801GetNothing: asking for what is not there turns nothing, and makes no room for it.
func TestP1801GetNothing(t *testing.T) {
	c := New(2)
	wantNothing(t, c, 3, 3)
	wantRoom(t, c, 1, 10)
	wantRoom(t, c, 2, 20)
	wantNothing(t, c, 3, 3, 10, 20, 0)
	wantKeys(t, c, 2, 1)
	wantPut(t, c, 3, 30, 1)
	wantNothing(t, c, 1)
	wantKeys(t, c, 3, 2)
}

// TestP1801PutAgain: a key that is there has the new value, is the first one, and none goes, be the cache full or not.
func TestP1801PutAgain(t *testing.T) {
	for _, size := range []int{3, 4} {
		c := New(size)
		for k := range 3 {
			wantRoom(t, c, k, k)
		}
		wantRoom(t, c, 0, 100)
		wantKeys(t, c, 0, 2, 1)
		wantRoom(t, c, 2, 200)
		wantKeys(t, c, 2, 0, 1)
		wantRoom(t, c, 2, 201)
		wantKeys(t, c, 2, 0, 1)
		wantGet(t, c, 1, 1)
		wantGet(t, c, 0, 100)
		wantGet(t, c, 2, 201)
		wantKeys(t, c, 2, 0, 1)
	}
}

// TestP1801Back: a key that went may come again, and has nothing of what it had.
func TestP1801Back(t *testing.T) {
	c := New(2)
	wantRoom(t, c, 1, 10)
	wantRoom(t, c, 2, 20)
	wantPut(t, c, 3, 30, 1)
	wantNothing(t, c, 1)
	wantPut(t, c, 1, 11, 2)
	wantKeys(t, c, 1, 3)
	wantGet(t, c, 3, 30)
	wantGet(t, c, 1, 11)
}

// TestP1801OddNumbers: keys and values are any numbers, 0 among them: a value of 0 is one.
func TestP1801OddNumbers(t *testing.T) {
	odd := []int{0, -1, math.MinInt, math.MaxInt, 1, 1 << 32, -1 << 32, 1<<32 + 1}
	c := New(len(odd))
	for i, k := range odd {
		wantRoom(t, c, k, odd[len(odd)-1-i])
	}
	for i, k := range odd {
		wantGet(t, c, k, odd[len(odd)-1-i])
	}
	wantRoom(t, c, 1, 0)
	wantGet(t, c, 1, 0)
	wantGet(t, c, 0, odd[len(odd)-1])
	for i, k := range []int{-1, math.MinInt, math.MaxInt, 1 << 32, -1 << 32, 1<<32 + 1, 1, 0} {
		wantPut(t, c, 1000+i, 3, k)
	}
}

// TestP1801ZeroGoes: the key 0 goes as any other: 0, true.
func TestP1801ZeroGoes(t *testing.T) {
	c := New(1)
	wantRoom(t, c, 0, 5)
	wantPut(t, c, 4, 6, 0)
	wantPut(t, c, 0, 7, 4)
	wantKeys(t, c, 0)
}

// TestP1801AskingChangesNothing: Keys and Len turn nothing.
func TestP1801AskingChangesNothing(t *testing.T) {
	c := New(3)
	for k := range 3 {
		wantRoom(t, c, k, k)
	}
	for range 4 {
		wantKeys(t, c, 2, 1, 0)
	}
	wantPut(t, c, 9, 9, 0)
}

func TestP1802TwoCaches(t *testing.T) {
	a, b := New(2), New(2)
	wantRoom(t, a, 1, 10)
	wantRoom(t, a, 2, 20)
	wantKeys(t, b)
	wantNothing(t, b, 1, 2)
	wantRoom(t, b, 2, 21)
	wantRoom(t, b, 3, 31)
	wantPut(t, b, 4, 41, 2)
	wantKeys(t, a, 2, 1)
	wantGet(t, a, 1, 10)
	wantGet(t, a, 2, 20)
	wantNothing(t, a, 3, 4)
	wantKeys(t, b, 4, 3)
}

// TestP1802CopiedCache: a copy knows what the cache was told up to then, and from there on each has its own.
func TestP1802CopiedCache(t *testing.T) {
	a := New(3)
	for k := range 3 {
		wantRoom(t, a, k, 10*k)
	}
	b, c := *a, *a
	wantGet(t, a, 0, 0)
	wantKeys(t, a, 0, 2, 1)
	wantKeys(t, &b, 2, 1, 0)
	wantPut(t, &b, 7, 70, 0)
	wantRoom(t, &b, 1, 11)
	wantKeys(t, &b, 1, 7, 2)
	wantKeys(t, &c, 2, 1, 0)
	wantRoom(t, &c, 2, 22)
	wantPut(t, a, 8, 80, 1)
	wantKeys(t, a, 8, 0, 2)
	wantGet(t, a, 2, 20)
	wantGet(t, &b, 1, 11)
	wantGet(t, &c, 1, 10)
	wantGet(t, &c, 0, 0)
	wantGet(t, &c, 2, 22)
	wantNothing(t, a, 1, 7)
	wantNothing(t, &b, 0, 8)
	wantNothing(t, &c, 7, 8)
}

// TestP1802CopiedWithRoom: also where there was room left in the list that both know.
func TestP1802CopiedWithRoom(t *testing.T) {
	a := New(8)
	wantRoom(t, a, 1, 10)
	wantRoom(t, a, 2, 20)
	wantRoom(t, a, 1, 11)
	b := *a
	wantRoom(t, a, 3, 30)
	wantRoom(t, &b, 4, 40)
	wantRoom(t, a, 5, 50)
	wantKeys(t, a, 5, 3, 1, 2)
	wantKeys(t, &b, 4, 1, 2)
	wantGet(t, &b, 2, 20)
	wantGet(t, a, 1, 11)
	wantKeys(t, a, 1, 5, 3, 2)
	wantKeys(t, &b, 2, 4, 1)
}

// TestP1802NewMemory: a list of keys may be turned, its spare room too, and the cache stays, and other lists.
func TestP1802NewMemory(t *testing.T) {
	c := New(4)
	for k := range 3 {
		wantRoom(t, c, k, k)
	}
	one, other := c.Keys(), c.Keys()
	clear(one[:cap(one)])
	_ = append(one[:1], 55, 66, 77)
	if !slices.Equal(other, []int{2, 1, 0}) {
		t.Errorf("P1802: another list became %v", other)
	}
	wantKeys(t, c, 2, 1, 0)
	wantRoom(t, c, 9, 9)
	if !slices.Equal(other, []int{2, 1, 0}) {
		t.Errorf("P1802: an earlier list became %v", other)
	}
	wantKeys(t, c, 9, 2, 1, 0)
}

// TestP1802NoMore: what went is not kept, so that it matters nothing how much was told.
func TestP1802NoMore(t *testing.T) {
	c := New(4)
	for k := range 100000 {
		c.Put(k, k)
		c.Get(k - 2)
	}
	if n := len(c.entries.list); n != 4 {
		t.Errorf("P1801: %d entries", n)
	}
	if n := cap(c.entries.list); n > 8 {
		t.Errorf("P1802: room for %d entries", n)
	}
}
