package atom

import "slices"

// numbered is a table by keys: each key has the number of its place among those that came.
//
// A numbered that is copied by an assignment shares its map with the copy.
// So the map may know more keys than the list: those that were added to the copy. They are none of this table's.
type numbered[K comparable] struct {
	keys    []K
	numbers map[K]int
}

// find tells the number of k (0, false: it has none).
func (t *numbered[K]) find(k K) (int, bool) {
	n, ok := t.numbers[k]
	if !ok || n >= len(t.keys) {
		return 0, false
	}
	return n, true
}

// key tells whose number n is (false: nobody's).
func (t *numbered[K]) key(n int) (K, bool) {
	if n < 0 || n >= len(t.keys) {
		var none K
		return none, false
	}
	return t.keys[n], true
}

// count tells how many keys have a number.
func (t *numbered[K]) count() int {
	return len(t.keys)
}

// add gives k, which has no number, the next one.
func (t *numbered[K]) add(k K) int {
	if t.numbers == nil || len(t.numbers) != len(t.keys) {
		t.part()
	}
	n := len(t.keys)
	t.keys = append(t.keys, k)
	t.numbers[k] = n
	return n
}

// part gives the table a list and a map that no other table knows.
func (t *numbered[K]) part() {
	t.keys = slices.Clone(t.keys)
	t.numbers = make(map[K]int, len(t.keys))
	for n, k := range t.keys {
		t.numbers[k] = n
	}
}
