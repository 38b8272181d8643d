package weigh

import "tapestrier/api"

const (
	most     = 255 // of each sum
	maxDepth = 8   // lists of not and is in each other that weigh something
)

// sums are the three sums of a weight, the one that weighs most first: a byte holds no more than each may be.
type sums struct{ ids, classes, tags uint8 }

// number is the kinds of numbers that are added to a sum: how long a list is, and another sum.
type number interface{ ~int | ~uint8 }

// grown tells a sum and n, which is not below 0, in one.
// No more of n is taken than there is room for, so that nothing of it is cut off when it becomes a byte.
func grown[N number](sum uint8, n N) uint8 {
	return sum + uint8(min(n, N(most-sum)))
}

// sumsOf tells the sums of s, which lies in so many lists.
func sumsOf(s api.Selector, depth int) sums {
	var out sums
	for _, p := range s.Parts {
		out = out.with(namesOf(p.Compound))
		for _, one := range p.Compound.Pseudos {
			out = out.with(pseudoOf(one, depth))
		}
	}
	return out
}

// namesOf tells the sums of c without its pseudo-classes.
func namesOf(c api.Compound) sums {
	out := sums{ids: grown(0, len(c.IDs)), classes: grown(grown(0, len(c.Classes)), len(c.Attrs))}
	if c.Tag != "" {
		out.tags = 1
	}
	return out
}

// pseudoOf tells the sums of a pseudo-class of a selector that lies in so many lists.
func pseudoOf(p api.Pseudo, depth int) sums {
	switch p.Kind {
	case api.SNot, api.SIs:
		return greatest(p.List, depth+1)
	}
	return sums{classes: 1}
}

// greatest tells the sums of the one of l that weighs most, l being the list of that depth.
// It never looks deeper than the bound, so that lists which lie in themselves end, too.
func greatest(l []api.Selector, depth int) sums {
	var out sums
	if depth > maxDepth {
		return out
	}
	for _, s := range l {
		if one := sumsOf(s, depth); one.weight() > out.weight() {
			out = one
		}
	}
	return out
}

// with tells both sums in one, each of the three for itself: what is too much for one does not go into the next.
func (s sums) with(other sums) sums {
	return sums{grown(s.ids, other.ids), grown(s.classes, other.classes), grown(s.tags, other.tags)}
}

// weight tells the sums as one number.
func (s sums) weight() int {
	return int(s.ids)<<16 + int(s.classes)<<8 + int(s.tags)
}
