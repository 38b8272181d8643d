package cascade

import (
	"math"
	"slices"
	"strconv"
	"strings"
	"testing"

	"tapestrier/api"
	"tapestrier/bloom"
	"tapestrier/bucket"
	"tapestrier/dom"
	"tapestrier/sel"
	"tapestrier/text"
	"tapestrier/tok"
	"tapestrier/weigh"
)

type table = [api.Props]api.Value

// read tells the selectors of the text.
func read(t *testing.T, s string) []api.Selector {
	t.Helper()
	l, ok := sel.Parse(tok.Tokens(text.Prepare([]byte(s))))
	if !ok {
		t.Fatalf("no selectors: %q", s)
	}
	return l
}

// rule makes a rule of the selectors of the text.
func rule(t *testing.T, s string, sets ...api.Set) api.Rule {
	t.Helper()
	return api.Rule{Sels: read(t, s), Sets: sets}
}

// low makes a Set that is not Important, of so many px.
func low(prop, n int) api.Set {
	return api.Set{Prop: prop, Value: px(n)}
}

// high makes an Important one.
func high(prop, n int) api.Set {
	return api.Set{Prop: prop, Value: px(n), Important: true}
}

func px(n int) api.Value { return api.Value{Kind: api.VPx, N: n} }

// only makes a table with the value n of one property.
func only(prop, n int) table {
	var out table
	out[prop] = px(n)
	return out
}

// treeOf makes a tree of nodes that are one.
func treeOf(t *testing.T, l ...api.Node) *dom.Tree {
	t.Helper()
	x, err := dom.New(l)
	if err != api.OK {
		t.Fatalf("no tree: %d", err)
	}
	return x
}

// family makes a tree: a root, two children of it, and below the first one element 3, of which most tests ask.
func family(t *testing.T) *dom.Tree {
	t.Helper()
	return treeOf(t,
		api.Node{Parent: -1, Tag: "a", ID: "r"},
		api.Node{Parent: 0, Tag: "b", Classes: []string{"p"}},
		api.Node{Parent: 0, Tag: "b", Classes: []string{"z"}},
		api.Node{Parent: 1, Tag: "c", ID: "i", Classes: []string{"p", "q"}, Attrs: []api.Pair{{Name: "m", Text: "1"}}},
	)
}

// filterFor makes the filter that Fast is to have for the element e.
func filterFor(x *dom.Tree, e int) *bloom.Filter {
	f := &bloom.Filter{}
	for p := x.Parent(e); p >= 0; p = x.Parent(p) {
		f.Push(bloom.Of(x.Node(p)))
	}
	return f
}

// fast tells what Fast tells with the map and the filter that it is to have.
func fast(x *dom.Tree, e int, l []api.Rule) table {
	return Fast(x, e, l, bucket.New(l), filterFor(x, e))
}

// wantBoth asks for the table of both calls.
func wantBoth(t *testing.T, name string, x *dom.Tree, e int, l []api.Rule, want table) {
	t.Helper()
	if got := Winners(x, e, l); got != want {
		t.Errorf("P1501: %s: %v, want %v", name, got, want)
	}
	if got := fast(x, e, l); got != want {
		t.Errorf("P1502: %s: %v, want %v", name, got, want)
	}
}

func TestP1501Example(t *testing.T) {
	l := []api.Rule{rule(t, "b c", low(api.PWidth, 1)), rule(t, "a c", low(api.PWidth, 2))}
	wantBoth(t, "two rules of one weight", family(t), 3, l, only(api.PWidth, 2))
}

// TestP1501WhoWins: each row's rules stand in their order, and behind it the value that wins.
func TestP1501WhoWins(t *testing.T) {
	x := family(t)
	for _, r := range []struct {
		name string
		l    []api.Rule
		want int
	}{
		{"one alone", []api.Rule{rule(t, "c", low(4, 1))}, 1},
		{"the one that is Important, of a lighter rule ahead", []api.Rule{rule(t, "c", high(4, 1)), rule(t, "#i", low(4, 2))}, 1},
		{"the one that is Important, of a lighter rule behind", []api.Rule{rule(t, "#i", low(4, 1)), rule(t, "*", high(4, 2))}, 2},
		{"the one that is Important, of its own rule", []api.Rule{rule(t, "c", high(4, 1), low(4, 2))}, 1},
		{"of two that are Important the one of the heavier rule", []api.Rule{rule(t, ".p", high(4, 1)), rule(t, "c", high(4, 2))}, 1},
		{"of two that are Important the later one", []api.Rule{rule(t, ".p", high(4, 1)), rule(t, ".q", high(4, 2))}, 2},
		{"of two that are Important in one rule the later one", []api.Rule{rule(t, ".p", high(4, 1), high(4, 2), low(4, 3))}, 2},
		{"the heavier rule ahead", []api.Rule{rule(t, "#i", low(4, 1)), rule(t, ".p.q", low(4, 2)), rule(t, "c", low(4, 3))}, 1},
		{"the heavier rule between", []api.Rule{rule(t, "c", low(4, 1)), rule(t, "#i", low(4, 2)), rule(t, ".p.q", low(4, 3))}, 2},
		{"the heavier rule behind", []api.Rule{rule(t, "c", low(4, 1)), rule(t, ".p", low(4, 2)), rule(t, "#r #i", low(4, 3))}, 3},
		{"a hundred tags against a class", []api.Rule{rule(t, ".p", low(4, 1)), rule(t, "c"+strings.Repeat(":is(c)", 100), low(4, 2))}, 1},
		{"the later one of its rule", []api.Rule{rule(t, "c", low(4, 1), low(4, 2), low(4, 3))}, 3},
		{"the earlier rule is weighed by the best that matches", []api.Rule{rule(t, "c, .z, a b .q, *", low(4, 1)), rule(t, ".p", low(4, 2))}, 1},
		{"what does not match weighs nothing", []api.Rule{rule(t, "c, #r, .z.z.z", low(4, 1)), rule(t, ".p", low(4, 2))}, 2},
		{"weights are not added", []api.Rule{rule(t, ".p, .q, c, [m]", low(4, 1)), rule(t, ".p.q", low(4, 2)), rule(t, ".p, .q", low(4, 3))}, 2},
		{"how often a value is set counts nothing", []api.Rule{rule(t, "c", low(4, 1), low(4, 1), low(4, 1)), rule(t, "c", low(4, 2))}, 2},
		{"what weighs nothing", []api.Rule{rule(t, "*", low(4, 1)), rule(t, ":is(*)", low(4, 2))}, 2},
		{"a rule that does not match, in between", []api.Rule{rule(t, "c", low(4, 1)), rule(t, "c > *", high(4, 2)), rule(t, "#r", low(4, 3))}, 1},
		{"ancestors and elements beside", []api.Rule{rule(t, "#r > .p:first-child > c", low(4, 1)), rule(t, "#r .z c", low(4, 2)), rule(t, "b + b c", low(4, 3))}, 1},
	} {
		wantBoth(t, r.name, x, 3, r.l, only(4, r.want))
	}
}

// TestP1501ImportantWeighsMore: nothing that is not Important wins over what is, not even at the greatest weight that there is.
func TestP1501ImportantWeighsMore(t *testing.T) {
	greatest := api.Compound{IDs: slices.Repeat([]string{"i"}, 300), Classes: slices.Repeat([]string{"p"}, 300)}
	greatest.Pseudos = slices.Repeat([]api.Pseudo{{Kind: api.SIs, List: read(t, "c")}}, 300)
	heavy := []api.Selector{{Parts: []api.Part{{Compound: greatest}}}}
	if weigh.Of(heavy[0]) != 1<<24-1 {
		t.Fatalf("the weight: %d", weigh.Of(heavy[0]))
	}
	l := []api.Rule{rule(t, "*", high(0, 1)), {Sels: heavy, Sets: []api.Set{low(0, 2), low(1, 3)}}, rule(t, "#i", low(0, 4), low(1, 5), high(2, 6))}
	want := table{px(1), px(3), px(6)}
	wantBoth(t, "the heavier one last", family(t), 3, l, want)
	slices.Reverse(l)
	wantBoth(t, "the heavier one first", family(t), 3, l, want)
}

// TestP1501AllShortRows goes through all rows of up to four Sets of three weights, Important or not, each in a rule of its own or in that of the one ahead.
func TestP1501AllShortRows(t *testing.T) {
	x := family(t)
	var sels [][]api.Selector
	for _, s := range []string{"c", "*, .q", "#i"} {
		sels = append(sels, read(t, s))
	}
	var grow func(l []api.Rule, n int)
	grow = func(l []api.Rule, n int) {
		wantBoth(t, "a short row", x, 3, l, plainWinners(x, 3, l))
		if n == 4 || t.Failed() {
			return
		}
		for _, important := range []bool{false, true} {
			s := api.Set{Prop: n % 2 * 7, Value: px(n + 1), Important: important}
			if n%2 == 1 && important {
				s.Prop = 0
			}
			for _, one := range sels {
				grow(append(l[:len(l):len(l)], api.Rule{Sels: one, Sets: []api.Set{s}}), n+1)
			}
			if k := len(l) - 1; k >= 0 {
				more := slices.Clone(l)
				more[k].Sets = append(slices.Clone(l[k].Sets), s)
				grow(more, n+1)
			}
		}
	}
	grow(nil, 0)
}

// TestP1501EachProperty: each property has a winner of its own, whatever else its rule sets.
func TestP1501EachProperty(t *testing.T) {
	first, second, third := rule(t, "#i"), rule(t, "c"), rule(t, ".p")
	var want table
	for prop := range api.Props {
		first.Sets = append(first.Sets, low(prop, 10+prop))
		second.Sets = append(second.Sets, api.Set{Prop: prop, Value: px(20 + prop), Important: prop%3 == 0})
		third.Sets = append(third.Sets, low(api.Props-1-prop, 30+prop))
		want[prop] = px(10 + prop)
		if prop%3 == 0 {
			want[prop] = px(20 + prop)
		}
	}
	l := []api.Rule{first, second, third}
	wantBoth(t, "all properties", family(t), 3, l, want)
	for prop := range api.Props {
		wantBoth(t, "one property", family(t), 3, []api.Rule{rule(t, "c", low(prop, 7))}, only(prop, 7))
	}
}

// TestP1501NoProperty: what is set of no property is nothing, be it Important or not.
func TestP1501NoProperty(t *testing.T) {
	var l []api.Rule
	for _, prop := range []int{-1, -8, api.Props, api.Props + 1, 256, 1 << 32, 1<<32 + 4, -1 << 32, math.MinInt, math.MaxInt} {
		wantBoth(t, "no property", family(t), 3, []api.Rule{rule(t, "c", high(prop, 1), low(prop, 2))}, table{})
		l = append(l, rule(t, "#i", high(prop, 1), low(4, 3), low(prop, 2)))
	}
	wantBoth(t, "a property among others", family(t), 3, l, only(4, 3))
}

// TestP1501ValuesAsTheyStand: a value is told as it was set, whether there is such a one or not; one that is zero wins as others do.
func TestP1501ValuesAsTheyStand(t *testing.T) {
	for _, v := range []api.Value{{}, {N: 7}, {Kind: api.VInherit}, {Kind: api.VInherit, N: 3}, {Kind: 99, N: -1}, {Kind: -1}, {Kind: math.MinInt, N: math.MaxInt}, {Kind: math.MaxInt, N: math.MinInt}} {
		set := func(important bool) api.Set { return api.Set{Prop: 2, Value: v, Important: important} }
		want := table{}
		want[2] = v
		wantBoth(t, "a later one", family(t), 3, []api.Rule{rule(t, "c", low(2, 1), set(false))}, want)
		wantBoth(t, "a later rule's", family(t), 3, []api.Rule{rule(t, "c", low(2, 1)), rule(t, "c", set(false))}, want)
		wantBoth(t, "a heavier one", family(t), 3, []api.Rule{rule(t, ".p", set(false)), rule(t, "c", low(2, 1))}, want)
		wantBoth(t, "an Important one", family(t), 3, []api.Rule{rule(t, "c", set(true), low(2, 1))}, want)
		wantBoth(t, "one that loses", family(t), 3, []api.Rule{rule(t, "c", set(true)), rule(t, "c", high(2, 1), set(false))}, only(2, 1))
	}
}

// TestP1501None: without rules, without Sets, without anything that matches nothing wins.
func TestP1501None(t *testing.T) {
	x := family(t)
	set := []api.Set{low(4, 1), high(5, 2)}
	for _, l := range [][]api.Rule{
		nil, {}, make([]api.Rule, 3),
		{rule(t, "*")}, {rule(t, "x", set...)}, {rule(t, "#r, .z, c c, c:empty > c", set...)},
		{{Sets: set}}, {{Sels: []api.Selector{}, Sets: set}}, {{Sels: []api.Selector{{}, {Parts: []api.Part{}}}, Sets: set}},
		[]api.Rule{rule(t, "c", set...)}[:0],
	} {
		wantBoth(t, "nothing that wins", x, 3, l, table{})
	}
	l := []api.Rule{rule(t, "*, :not(x), :root", set...)}
	for _, e := range []int{-1, 4, 5, 1 << 32, math.MinInt, math.MaxInt} {
		wantBoth(t, "no element", x, e, l, table{})
	}
	for _, none := range []*dom.Tree{new(dom.Tree), treeOf(t)} {
		wantBoth(t, "a tree without elements", none, 0, l, table{})
	}
	for _, e := range []int{-1, 0, 3} {
		if got := Winners(nil, e, l); got != (table{}) {
			t.Errorf("P1501: no tree: %v", got)
		}
	}
}

// TestP1501BeyondBounds: a selector that no element may match takes nothing away from the others of its rule.
func TestP1501BeyondBounds(t *testing.T) {
	endless := []api.Selector{{Parts: []api.Part{{Compound: api.Compound{Pseudos: make([]api.Pseudo, 1)}}}}}
	endless[0].Parts[0].Compound.Pseudos[0] = api.Pseudo{Kind: api.SNot, List: endless}
	long := api.Selector{Parts: make([]api.Part, 51)}
	for k := range long.Parts {
		long.Parts[k].Comb = api.CWithin
	}
	odd := api.Selector{Parts: []api.Part{{}, {Comb: 99}}}
	strange := api.Selector{Parts: []api.Part{{Compound: api.Compound{Tag: "c", Pseudos: []api.Pseudo{{Kind: -1}}, Attrs: []api.Attr{{Op: 99}}}}}}
	sels := []api.Selector{endless[0], long, odd, strange, {}}
	l := []api.Rule{{Sels: sels, Sets: []api.Set{high(4, 1)}}}
	wantBoth(t, "what can't match", family(t), 3, l, table{})
	l = append(l, api.Rule{Sels: append(sels, read(t, "c")...), Sets: []api.Set{low(4, 2)}}, rule(t, "*", low(4, 3)))
	wantBoth(t, "and what can", family(t), 3, l, only(4, 2))
}

// TestP1501NotForEver: very many rules, of which each sets very much.
func TestP1501NotForEver(t *testing.T) {
	var l []api.Rule
	var want table
	sets := make([]api.Set, 0, 10_000)
	for k := range cap(sets) {
		sets = append(sets, low(k%api.Props, k))
		want[k%api.Props] = px(k)
	}
	for k := range 5_000 {
		l = append(l, rule(t, "c"+strings.Repeat(".p", 1+k%7), sets...), rule(t, ".n"+strconv.Itoa(k), high(0, 1)))
	}
	wantBoth(t, "very many", family(t), 3, l, want)
	wantBoth(t, "very many that do not match", family(t), 2, l, table{})
}
