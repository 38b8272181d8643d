package cascade

import (
	"cmp"
	"iter"
	"maps"
	"slices"
)

// tiers is a map of lists: under each weight what was added there, in the order in which it came.
type tiers[W cmp.Ordered, V any] map[W][]V

// add puts v at the end of the list of that weight.
func (t tiers[W, V]) add(weight W, v V) {
	t[weight] = append(t[weight], v)
}

// rising tells all one by one, those of the least weight first.
func (t tiers[W, V]) rising() iter.Seq[V] {
	return func(yield func(V) bool) {
		for _, weight := range slices.Sorted(maps.Keys(t)) {
			for _, v := range t[weight] {
				if !yield(v) {
					return
				}
			}
		}
	}
}
