package bloom

import (
	"iter"

	"tapestrier/api"
)

// Kinds of names: a tag, an ID and a class that are spelt alike are three names.
const (
	ofTag   = 1
	ofID    = 2
	ofClass = 3
)

// A hash begins at start, and is multiplied by prime for each byte.
const (
	start uint32 = 2166136261
	prime uint32 = 16777619
)

// mixed tells the hash h with one byte more in it.
func mixed(h uint32, b byte) uint32 {
	return (h ^ uint32(b)) * prime
}

// hashesOf tells one by one the hashes of the names of n.
func hashesOf(n api.Node) iter.Seq[int] {
	var ids []string
	if n.ID != "" {
		ids = []string{n.ID}
	}
	return hashes(n.Tag, ids, n.Classes)
}

// hashes tells one by one the hashes of a tag (an empty one is none), of IDs, and of classes.
func hashes(tag string, ids, classes []string) iter.Seq[int] {
	return func(yield func(int) bool) {
		if tag != "" && !yield(Hash(ofTag, tag)) {
			return
		}
		for _, id := range ids {
			if !yield(Hash(ofID, id)) {
				return
			}
		}
		for _, class := range classes {
			if !yield(Hash(ofClass, class)) {
				return
			}
		}
	}
}

// wanted tells one by one the hashes of the names that s asks of ancestors.
func wanted(s api.Selector) iter.Seq[int] {
	return func(yield func(int) bool) {
		for c := range above(s) {
			for h := range hashes(c.Tag, c.IDs, c.Classes) {
				if !yield(h) {
					return
				}
			}
		}
	}
}

// above tells one by one, from the right to the left, what s asks of ancestors.
// It ends where a Comb leads to elements beside: the filter knows none of these, and the ancestors that they have are asked for no more.
func above(s api.Selector) iter.Seq[api.Compound] {
	return func(yield func(api.Compound) bool) {
		for i := len(s.Parts) - 1; i > 0 && upward(s.Parts[i].Comb); i-- {
			if !yield(s.Parts[i-1].Compound) {
				return
			}
		}
	}
}

// upward tells whether a Comb leads to an ancestor.
func upward(comb int) bool {
	return comb == api.CWithin || comb == api.CChild
}
