package cascade

import (
	"iter"
	"slices"

	"tapestrier/api"
	"tapestrier/bloom"
	"tapestrier/dom"
	"tapestrier/weigh"
)

// candidate is a rule that matches the element: what it weighs there, and what it sets.
type candidate struct {
	weight int
	sets   []api.Set
}

// candidates tells one by one those of the rules that match the element e, in order.
func candidates(t *dom.Tree, e int, rules iter.Seq[api.Rule]) iter.Seq[candidate] {
	return func(yield func(candidate) bool) {
		for r := range rules {
			weight, ok := weigh.Best(t, e, r.Sels)
			if ok && !yield(candidate{weight, r.Sets}) {
				return
			}
		}
	}
}

// hopeful tells one by one those of the rules l that stand at the places, which rise, each with those of its selectors alone that f does not rule out.
func hopeful(l []api.Rule, places []int, f *bloom.Filter) iter.Seq[api.Rule] {
	return func(yield func(api.Rule) bool) {
		for _, i := range places {
			// A map of other rules may tell of more than there are.
			if i >= len(l) || !yield(api.Rule{Sels: possible(l[i].Sels, f), Sets: l[i].Sets}) {
				return
			}
		}
	}
}

// possible tells, in a list of its own, those of l of which f may have all that they want of ancestors.
func possible(l []api.Selector, f *bloom.Filter) []api.Selector {
	isMissing := func(h int) bool { return !f.May(h) }
	var out []api.Selector
	for _, s := range l {
		if !slices.ContainsFunc(bloom.Wants(s), isMissing) {
			out = append(out, s)
		}
	}
	return out
}
