package lru

import "iter"

// recent is a list of entries, at most size of them, of which the one that was asked for last is the first.
//
// A recent that is copied by an assignment shares its list with the copy.
// So no list is written into: whatever turns the order makes a new one.
type recent[K comparable, V any] struct {
	size int
	list []entry[K, V]
}

// entry is a key and what it has.
type entry[K comparable, V any] struct {
	key   K
	value V
}

// all tells each key and what it has, from the first one on.
func (r *recent[K, V]) all() iter.Seq2[K, V] {
	return func(yield func(K, V) bool) {
		for _, e := range r.list {
			if !yield(e.key, e.value) {
				return
			}
		}
	}
}

// count tells how many entries there are.
func (r *recent[K, V]) count() int {
	return len(r.list)
}

// get tells what k has, and makes it the first one (false: it has nothing).
func (r *recent[K, V]) get(k K) (V, bool) {
	for key, v := range r.all() {
		if key == k {
			r.list = r.ledBy(k, v)
			return v, true
		}
	}
	var none V
	return none, false
}

// put gives k the value v, and makes it the first one. It tells the key that had to go for it (false: none).
func (r *recent[K, V]) put(k K, v V) (K, bool) {
	list := r.ledBy(k, v)
	r.list = list[:min(len(list), r.size)]
	if len(list) > r.size {
		return list[r.size].key, true
	}
	var none K
	return none, false
}

// ledBy makes a list of k with the value v, and behind it all others as they stand.
func (r *recent[K, V]) ledBy(k K, v V) []entry[K, V] {
	list := make([]entry[K, V], 1, r.count()+1)
	list[0] = entry[K, V]{k, v}
	for key, value := range r.all() {
		if key != k {
			list = append(list, entry[K, V]{key, value})
		}
	}
	return list
}
