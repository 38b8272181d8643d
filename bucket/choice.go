package bucket

import (
	"slices"

	"tapestrier/api"
)

// bucket is where selectors stand: by a name of that kind.
type bucket struct {
	kind kind
	name string // empty, if the kind is ofAll
}

type kind uint8

const (
	ofAll kind = iota
	ofTag
	ofClass
	ofID
)

// bucketOf tells the bucket of a selector whose last Compound is c.
// A name that is empty is one, too, but for the Tag, of which an empty one means any.
func bucketOf(c api.Compound) bucket {
	switch {
	case len(c.IDs) > 0:
		return bucket{ofID, c.IDs[0]}
	case len(c.Classes) > 0:
		return bucket{ofClass, c.Classes[0]}
	case c.Tag != "":
		return bucket{ofTag, c.Tag}
	}
	return bucket{kind: ofAll}
}

// bucketsFor tells the buckets of all selectors that may match n.
// Each is told once: else a name that n has very often would make its bucket be gone through as often.
func bucketsFor(n api.Node) []bucket {
	out := []bucket{{kind: ofAll}, {ofTag, n.Tag}}
	if n.ID != "" {
		out = append(out, bucket{ofID, n.ID})
	}
	for _, class := range slices.Compact(slices.Sorted(slices.Values(n.Classes))) {
		out = append(out, bucket{ofClass, class})
	}
	return out
}
