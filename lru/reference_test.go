package lru

import (
	"maps"
	"math"
	"math/rand"
	"slices"
	"testing"
)

// plain is a cache in the chapter's words: of each key what it has, and when it was asked for or put last.
type plain struct {
	size  int
	turn  int
	value map[int]int
	when  map[int]int
}

func newPlain(size int) *plain {
	if size < 0 {
		size = 0
	}
	if size > 1024 {
		size = 1024
	}
	return &plain{size: size, value: map[int]int{}, when: map[int]int{}}
}

func (p *plain) first(k int) {
	p.turn++
	p.when[k] = p.turn
}

func (p *plain) get(k int) (int, bool) {
	v, ok := p.value[k]
	if ok {
		p.first(k)
	}
	return v, ok
}

func (p *plain) put(k, v int) (int, bool) {
	p.value[k] = v
	p.first(k)
	if len(p.value) <= p.size {
		return 0, false
	}
	keys := p.keys()
	last := keys[len(keys)-1]
	delete(p.value, last)
	delete(p.when, last)
	return last, true
}

func (p *plain) keys() []int {
	keys := slices.Collect(maps.Keys(p.when))
	slices.SortFunc(keys, func(a, b int) int { return p.when[b] - p.when[a] })
	return keys
}

// pair is a cache and its plain one, which are told the same.
type pair struct {
	c *Cache
	p *plain
}

func newPair(size int) pair {
	return pair{New(size), newPlain(size)}
}

func (x pair) get(t *testing.T, k int) {
	t.Helper()
	v, ok := x.c.Get(k)
	want, has := x.p.get(k)
	if v != want || ok != has {
		t.Fatalf("P1801: Get(%d): %d, %v, want %d, %v", k, v, ok, want, has)
	}
}

func (x pair) put(t *testing.T, k, v int) {
	t.Helper()
	key, ok := x.c.Put(k, v)
	want, goes := x.p.put(k, v)
	if key != want || ok != goes {
		t.Fatalf("P1801: Put(%d, %d): %d, %v, want %d, %v", k, v, key, ok, want, goes)
	}
}

func (x pair) compare(t *testing.T) {
	t.Helper()
	want := x.p.keys()
	if keys := x.c.Keys(); !slices.Equal(keys, want) {
		t.Fatalf("P1801: Keys: %v, want %v", keys, want)
	}
	if n := x.c.Len(); n != len(want) {
		t.Fatalf("P1801: Len: %d, want %d", n, len(want))
	}
}

// TestP1801AllShort: all rows of up to six calls with four keys, in caches of up to four entries.
func TestP1801AllShort(t *testing.T) {
	const keys, calls = 4, 6
	rows := 1
	for range calls {
		rows *= 2 * keys
	}
	for size := range 5 {
		for row := range rows {
			x := newPair(size)
			for i := range calls {
				call := row % (2 * keys)
				row /= 2 * keys
				if k := call / 2; call%2 == 0 {
					x.get(t, k)
				} else {
					x.put(t, k, 100*k+i)
				}
			}
			x.compare(t)
		}
	}
}

// madeKey makes a key by chance: of few, so that they come again, or an odd one.
func madeKey(chance *rand.Rand, few int) int {
	if chance.Intn(50) == 0 {
		return []int{0, -1, math.MinInt, math.MaxInt, 1 << 40}[chance.Intn(5)]
	}
	return chance.Intn(few) - few/2
}

func TestP1801ByChance(t *testing.T) {
	chance := rand.New(rand.NewSource(1801))
	for round := range 400 {
		size := chance.Intn(12) - 1
		if round%40 == 0 {
			size = []int{1024, 1023, 1025, 1 << 62, 300}[round/40%5]
		}
		few := 1 + chance.Intn(2*min(max(size, 1), 1100))
		x := newPair(size)
		for i := range 2*few + 200 {
			k := madeKey(chance, few)
			if chance.Intn(3) == 0 {
				x.get(t, k)
			} else {
				x.put(t, k, chance.Intn(5)-1)
			}
			if i%7 == 0 && size < 20 {
				x.compare(t)
			}
		}
		x.compare(t)
	}
}

// TestP1802Apart: caches that are told things by turns, copies too, tell what each was told alone.
func TestP1802Apart(t *testing.T) {
	chance := rand.New(rand.NewSource(1802))
	for range 300 {
		pairs := []pair{newPair(chance.Intn(5)), newPair(4)}
		for range 200 {
			x := pairs[chance.Intn(len(pairs))]
			switch chance.Intn(20) {
			case 0:
				if len(pairs) < 12 {
					c, p := *x.c, *x.p
					p.value, p.when = maps.Clone(p.value), maps.Clone(p.when)
					pairs = append(pairs, pair{&c, &p})
				}
			case 1, 2, 3, 4, 5, 6, 7:
				x.get(t, chance.Intn(7))
			default:
				x.put(t, chance.Intn(7), chance.Int())
			}
		}
		for _, x := range pairs {
			x.compare(t)
		}
	}
}

// TestP1802SameTold: two caches that are told the same tell the same.
func TestP1802SameTold(t *testing.T) {
	chance := rand.New(rand.NewSource(18))
	a, b := New(50), New(50)
	for range 20000 {
		k := madeKey(chance, 90)
		if chance.Intn(2) == 0 {
			v, ok := a.Get(k)
			w, also := b.Get(k)
			if v != w || ok != also {
				t.Fatalf("P1802: Get(%d): %d, %v and %d, %v", k, v, ok, w, also)
			}
			continue
		}
		v := chance.Intn(100)
		gone, ok := a.Put(k, v)
		other, also := b.Put(k, v)
		if gone != other || ok != also || !slices.Equal(a.Keys(), b.Keys()) {
			t.Fatalf("P1802: Put(%d, %d): %d, %v and %d, %v", k, v, gone, ok, other, also)
		}
	}
}

// TestIteratorIsLeft: whoever goes over the entries may stop at each of them.
func TestIteratorIsLeft(t *testing.T) {
	c := New(4)
	for k := range 4 {
		c.Put(k, 10*k)
	}
	for stop := range 5 {
		var keys, values []int
		for k, v := range c.entries.all() {
			if len(keys) == stop {
				break
			}
			keys, values = append(keys, k), append(values, v)
		}
		if !slices.Equal(keys, []int{3, 2, 1, 0}[:stop]) || !slices.Equal(values, []int{30, 20, 10, 0}[:stop]) {
			t.Errorf("left at %d: %v, %v", stop, keys, values)
		}
	}
}
