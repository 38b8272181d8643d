package compute

import (
	"math"
	"testing"

	"tapestrier/api"
	"tapestrier/decl"
	"tapestrier/text"
	"tapestrier/tok"
	"tapestrier/value"
)

// above is a parent's style: none of its properties is what it is at first, but each is something else.
var above = api.Style{5, 10000, 2, 1, 7, 8, 9, 10}

// wantOne asks what the property is below above, if it alone is set; the others must be as they are if nothing is set.
func wantOne(t *testing.T, prop, kind, n, want int) {
	t.Helper()
	var w set
	w[prop] = api.Value{Kind: kind, N: n}
	style := api.Style{5, 10000, 2, 2, -1, 0, 1000, 1 << 40}
	style[prop] = want
	if got := Of(&above, w); got != style {
		t.Errorf("P1601: property %d, kind %d, %d: %v, want %v", prop, kind, n, got, style)
	}
}

// wantNone asks whether a property that is set to all kinds but those is as if nothing were set.
func wantNone(t *testing.T, prop, unset int, known ...int) {
	t.Helper()
	has := map[int]bool{api.VInherit: true, api.VInitial: true}
	for _, kind := range known {
		has[kind] = true
	}
	for _, kind := range oddKinds {
		if !has[kind] {
			wantOne(t, prop, kind, 0, unset)
			wantOne(t, prop, kind, 77, unset)
			wantOne(t, prop, kind, math.MinInt, unset)
		}
	}
}

func TestP1601Example(t *testing.T) {
	parent := api.Style{api.PSize: 10000}
	if got := Of(&parent, set{api.PSize: {Kind: api.VEm, N: 2000}}); got[api.PSize] != 20000 {
		t.Errorf("P1601: 2em within 10px: %d", got[api.PSize])
	}
}

func TestP1601Root(t *testing.T) {
	want := api.Style{0, 16000, 0, 2, -1, 0, 1000, 1 << 40}
	if got := Root(); got != want {
		t.Errorf("P1601: Root: %v, want %v", got, want)
	}
	for prop, n := range Root() {
		if n != value.Initial(prop) {
			t.Errorf("P1601: Root: property %d: %d", prop, n)
		}
	}
	if got := Of(nil, set{}); got != want {
		t.Errorf("P1601: Of nothing: %v, want %v", got, want)
	}
}

// TestP1601NoParent: without a parent all is as within Root(), for each value.
func TestP1601NoParent(t *testing.T) {
	root := Root()
	for prop := range api.Props {
		for _, kind := range oddKinds {
			var w set
			w[prop] = api.Value{Kind: kind, N: 2000}
			if got, want := Of(nil, w), Of(&root, w); got != want {
				t.Errorf("P1601: without a parent: property %d, kind %d: %v, want %v", prop, kind, got, want)
			}
		}
	}
	if got := Of(nil, set{api.PSize: {Kind: api.VEm, N: 2000}, api.PWidth: {Kind: api.VEm, N: 500}}); got[api.PSize] != 32000 || got[api.PWidth] != 16000 {
		t.Errorf("P1601: without a parent: %v", got)
	}
	// A parent of which all is 0 is another thing than none.
	if got := Of(&api.Style{}, set{api.PSize: {Kind: api.VEm, N: 2000}}); got != (api.Style{0, 0, 0, 2, -1, 0, 1000, 1 << 40}) {
		t.Errorf("P1601: within zeros: %v", got)
	}
}

func TestP1601Words(t *testing.T) {
	for prop := range api.Props {
		unset := value.Initial(prop)
		if prop <= api.PAlign {
			unset = above[prop]
		}
		for _, n := range []int{0, 77, -5, math.MaxInt, math.MinInt} {
			wantOne(t, prop, api.VInherit, n, above[prop])
			wantOne(t, prop, api.VInitial, n, value.Initial(prop))
			wantOne(t, prop, api.VUnset, n, unset)
			wantOne(t, prop, 0, n, unset)
		}
	}
}

func TestP1601KindsThereAreNot(t *testing.T) {
	wantNone(t, api.PColor, 5, api.VColor)
	wantNone(t, api.PSize, 10000, api.VPx, api.VEm, api.VPercent)
	wantNone(t, api.PAlign, 2, api.VKey)
	wantNone(t, api.PDisplay, 2, api.VKey)
	wantNone(t, api.PWidth, -1, api.VKey, api.VPx, api.VEm, api.VPercent)
	wantNone(t, api.PMargin, 0, api.VPx, api.VEm, api.VPercent)
	wantNone(t, api.POpacity, 1000, api.VNumber)
	wantNone(t, api.PIndex, 1<<40, api.VKey, api.VNumber)
}

// TestP1601AsItIs: what is N is N, held within the bounds, also where no sheet has such a value.
func TestP1601AsItIs(t *testing.T) {
	for _, row := range []struct{ prop, kind int }{
		{api.PColor, api.VColor}, {api.PSize, api.VPx}, {api.PAlign, api.VKey}, {api.PDisplay, api.VKey}, {api.PWidth, api.VPx}, {api.PMargin, api.VPx}, {api.POpacity, api.VNumber}, {api.PIndex, api.VNumber},
	} {
		for _, n := range edges {
			wantOne(t, row.prop, row.kind, n, max(-api.MaxNum, min(n, api.MaxNum)))
		}
	}
	for _, n := range edges {
		wantOne(t, api.PWidth, api.VKey, n, -1)
		wantOne(t, api.PIndex, api.VKey, n, 1<<40)
	}
}

// TestP1601Sizes: ems and percents of the parent's font-size.
func TestP1601Sizes(t *testing.T) {
	for _, row := range []struct{ parent, kind, n, want int }{
		{10000, api.VEm, 0, 0},
		{10000, api.VEm, 1000, 10000},
		{10000, api.VEm, 1500, 15000},
		{10000, api.VEm, -1500, -15000},
		{16000, api.VEm, 333, 5328},
		{999, api.VEm, 1, 0},
		{-999, api.VEm, 1, 0},
		{1999, api.VEm, 1, 1},
		{-1999, api.VEm, 1, -1},
		{10000, api.VEm, math.MaxInt, api.MaxNum},
		{10000, api.VEm, math.MinInt, -api.MaxNum},
		{10, api.VEm, math.MaxInt, 21474836},
		{math.MaxInt, api.VEm, 1000, api.MaxNum},
		{math.MinInt, api.VEm, 500, -1073741823},
		{10000, api.VPercent, 0, 0},
		{10000, api.VPercent, 100000, 10000},
		{10000, api.VPercent, 50000, 5000},
		{10000, api.VPercent, 33333, 3333},
		{10000, api.VPercent, -33333, -3333},
		{-10000, api.VPercent, 33333, -3333},
		{1000, api.VPercent, 199, 1},
		{1000, api.VPercent, 99, 0},
		{1000, api.VPercent, -99, 0},
		{1000, api.VPercent, -199, -1},
		{1999, api.VPercent, 99999, 1998},
		{199, api.VPercent, 999, 1},
		// The product is held ahead of being divided by 100.
		{21474836, api.VPercent, 100000, 21474836},
		{21474837, api.VPercent, 100000, 21474836},
		{api.MaxNum, api.VPercent, 100000, 21474836},
		{-api.MaxNum, api.VPercent, 100000, -21474836},
		{math.MaxInt, api.VPercent, 1000, 21474836},
		{1000, api.VPercent, math.MaxInt, 21474836},
		{1000, api.VPercent, math.MinInt, -21474836},
	} {
		parent := api.Style{api.PSize: row.parent}
		if got := Of(&parent, set{api.PSize: {Kind: row.kind, N: row.n}}); got[api.PSize] != row.want {
			t.Errorf("P1601: font-size of kind %d, %d within %d: %d, want %d", row.kind, row.n, row.parent, got[api.PSize], row.want)
		}
	}
}

func TestP1601Percents(t *testing.T) {
	for _, row := range []struct{ n, width, margin int }{
		{0, -2, 1 << 40},
		{1, -3, 1<<40 + 1},
		{100000, -100002, 1<<40 + 100000},
		{-1, -1, 1<<40 - 1},
		{-3, 1, 1<<40 - 3},
		{math.MaxInt, -2 - api.MaxNum, 1<<40 + api.MaxNum},
		{math.MinInt, api.MaxNum - 2, 1<<40 - api.MaxNum},
	} {
		wantOne(t, api.PWidth, api.VPercent, row.n, row.width)
		wantOne(t, api.PMargin, api.VPercent, row.n, row.margin)
	}
}

// TestP1601OwnSize: ems of width and margin are of the element's own font-size, wherever it comes from.
func TestP1601OwnSize(t *testing.T) {
	for _, row := range []struct{ kind, n, size int }{
		{0, 0, 10000},
		{api.VUnset, 0, 10000},
		{api.VInherit, 0, 10000},
		{99, 7, 10000},
		{api.VInitial, 0, 16000},
		{api.VPx, 3000, 3000},
		{api.VPx, -3000, -3000},
		{api.VPx, 0, 0},
		{api.VEm, 3000, 30000},
		{api.VPercent, 50000, 5000},
		{api.VPx, math.MaxInt, api.MaxNum},
	} {
		got := Of(&above, set{api.PSize: {Kind: row.kind, N: row.n}, api.PWidth: {Kind: api.VEm, N: 1000}, api.PMargin: {Kind: api.VEm, N: -1000}})
		if got[api.PSize] != row.size || got[api.PWidth] != row.size || got[api.PMargin] != -row.size {
			t.Errorf("P1601: font-size of kind %d, %d: %v, want %d", row.kind, row.n, got, row.size)
		}
	}
	// An inherited font-size beyond the bounds stays as it is, ems of it are held.
	huge := api.Style{api.PSize: math.MinInt}
	if got := Of(&huge, set{api.PWidth: {Kind: api.VEm, N: 1000}, api.PMargin: {Kind: api.VEm, N: 500}}); got[api.PSize] != math.MinInt || got[api.PWidth] != -api.MaxNum || got[api.PMargin] != -1073741823 {
		t.Errorf("P1601: within a font-size beyond the bounds: %v", got)
	}
}

// TestP1601Inherited: what comes from the parent comes as it is, with no bounds.
func TestP1601Inherited(t *testing.T) {
	for _, parent := range oddParents[1:] {
		var all set
		for prop := range all {
			all[prop].Kind = api.VInherit
		}
		if got := Of(parent, all); got != *parent {
			t.Errorf("P1601: all inherited: %v, want %v", got, *parent)
		}
		want := api.Style{parent[0], parent[1], parent[2], 2, -1, 0, 1000, 1 << 40}
		if got := Of(parent, set{}); got != want {
			t.Errorf("P1601: nothing is set: %v, want %v", got, want)
		}
	}
}

// TestP1601Deep: ems in each other grow to the bound and stay there, percents shrink to nothing.
func TestP1601Deep(t *testing.T) {
	grown, shrunk := Root(), Root()
	for range api.MaxDepth {
		grown = Of(&grown, set{api.PSize: {Kind: api.VEm, N: 2000}, api.PWidth: {Kind: api.VEm, N: 1000}})
		shrunk = Of(&shrunk, set{api.PSize: {Kind: api.VPercent, N: 90000}})
	}
	if grown[api.PSize] != api.MaxNum || grown[api.PWidth] != api.MaxNum || shrunk[api.PSize] != 0 {
		t.Errorf("P1601: behind %d elements: %v, %v", api.MaxDepth, grown, shrunk)
	}
}

// ofSheet tells the style of what declarations set, the last one of a property.
func ofSheet(parent *api.Style, css string) api.Style {
	var w set
	for _, s := range value.Sets(decl.Parse(tok.Tokens(text.Prepare([]byte(css))))) {
		w[s.Prop] = s.Value
	}
	return Of(parent, w)
}

func TestP1601Written(t *testing.T) {
	outer := ofSheet(nil, "color:#f00;font-size:10px;text-align:center;display:none;width:auto;margin:0;opacity:.25;z-index:-7")
	if want := (api.Style{0xff0000, 10000, 2, 0, -1, 0, 250, -7000}); outer != want {
		t.Fatalf("P1601: %v, want %v", outer, want)
	}
	for css, want := range map[string]api.Style{
		"":                                       {0xff0000, 10000, 2, 2, -1, 0, 1000, 1 << 40},
		"font-size:2em;width:1.5em;margin:-.5em": {0xff0000, 20000, 2, 2, 30000, -10000, 1000, 1 << 40},
		"width:1.5em;margin:-.5em;font-size:120%":                                                                                      {0xff0000, 12000, 2, 2, 18000, -6000, 1000, 1 << 40},
		"width:50%;margin:-50%":                                                                                                        {0xff0000, 10000, 2, 2, -50002, 1<<40 - 50000, 1000, 1 << 40},
		"width:0;width:0%;margin:0%;z-index:auto":                                                                                      {0xff0000, 10000, 2, 2, -2, 1 << 40, 1000, 1 << 40},
		"color:initial;font-size:initial;text-align:initial;width:1em":                                                                 {0, 16000, 0, 2, 16000, 0, 1000, 1 << 40},
		"display:inherit;width:inherit;margin:inherit;opacity:inherit;z-index:inherit":                                                 outer,
		"color:unset;font-size:unset;text-align:unset;display:unset;width:unset;margin:unset;opacity:unset;z-index:unset":              {0xff0000, 10000, 2, 2, -1, 0, 1000, 1 << 40},
		"color:blue;font-size:3px;text-align:right;display:block;width:4px;margin:-5px;opacity:7;z-index:6;color:bleu;font-size:1px 2": {255, 3000, 1, 1, 4000, -5000, 1000, 6000},
	} {
		if got := ofSheet(&outer, css); got != want {
			t.Errorf("P1601: %s: %v, want %v", css, got, want)
		}
	}
}

// TestP1602HandedInStays: neither the parent nor what is set is changed.
func TestP1602HandedInStays(t *testing.T) {
	for _, kind := range oddKinds {
		parent, w := above, set{}
		for prop := range w {
			w[prop] = api.Value{Kind: kind, N: 1500 + prop}
		}
		handed := w
		Of(&parent, w)
		Of(nil, w)
		if parent != above || w != handed {
			t.Errorf("P1602: kind %d: the parent is %v, set is %v", kind, parent, w)
		}
	}
}

// TestP1602SameTold: the same is told each time, whatever was asked between, and whatever was done to what was handed in or answered.
func TestP1602SameTold(t *testing.T) {
	all := set{{Kind: api.VInherit}, {Kind: api.VEm, N: 2000}, {}, {Kind: api.VUnset}, {Kind: api.VEm, N: 1}, {Kind: api.VInherit}, {Kind: api.VInitial}, {Kind: 99}}
	parent := above
	first, root, bare := Of(&parent, all), Root(), Of(nil, all)
	want, wantRoot, wantBare := first, root, bare
	for k := range api.Props {
		parent = api.Style{}
		Of(&parent, set{})
		Of(&first, all)
		Of(&bare, all)
		Of(&root, all)
		if first != want || root != wantRoot || bare != wantBare {
			t.Fatal("P1602: an answer changes with the parent, or as one")
		}
		parent = above
		again, againRoot, againBare := Of(&parent, all), Root(), Of(nil, all)
		if again != want || againRoot != wantRoot || againBare != wantBare {
			t.Fatalf("P1602: %v, %v, %v, want %v, %v, %v", again, againRoot, againBare, want, wantRoot, wantBare)
		}
		again[k], againRoot[k], againBare[k] = -77, -77, -77
	}
	// What is handed in is looked at as it is at the call.
	parent[api.PSize] = 1000
	if got := Of(&parent, all); got[api.PSize] != 2000 || got[api.PWidth] != 2 {
		t.Errorf("P1602: of another parent: %v", got)
	}
}

// TestShare: both kinds of parts, on both sides of 0.
func TestShare(t *testing.T) {
	for n := -3000; n <= 3000; n += 7 {
		for _, length := range edges {
			if got, want := share(ems(n), 1, length), plainTimes(length, n); got != want {
				t.Errorf("share of %d ems of %d: %d, want %d", n, length, got, want)
			}
			if got, want := share(percents(n), 100, length), plainTimes(length, n)/100; got != want {
				t.Errorf("share of %d percents of %d: %d, want %d", n, length, got, want)
			}
		}
	}
}
