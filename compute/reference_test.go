package compute

import (
	"math"
	"math/big"
	"math/rand"
	"strings"
	"testing"

	"tapestrier/api"
)

// set is what is set of each property.
type set = [api.Props]api.Value

// plainNames are the properties, in their order.
var plainNames = strings.Fields("color font-size text-align display width margin opacity z-index")

// plainInitial and plainInherits are chapter 7's, as they stand there.
var (
	plainInitial  = map[string]int{"font-size": 16000, "display": 2, "width": -1, "opacity": 1000, "z-index": 1 << 40}
	plainInherits = map[string]bool{"color": true, "font-size": true, "text-align": true}
)

// plainTable is P1601's table as it stands there, one kind a line; parent and own are font-sizes.
const plainTable = `
color VColor N
font-size VPx N
font-size VEm times parent N
font-size VPercent times parent N / 100
text-align VKey N
display VKey N
width VKey -1
width VPx N
width VEm times own N
width VPercent -2 - N
margin VPx N
margin VEm times own N
margin VPercent 2^40 + N
opacity VNumber N
z-index VKey 2^40
z-index VNumber N
`

var plainKinds = map[string]int{"VKey": api.VKey, "VPx": api.VPx, "VEm": api.VEm, "VPercent": api.VPercent, "VNumber": api.VNumber, "VColor": api.VColor}

// plainRows are the lines of the table: under a property and a kind, what it says.
var plainRows = func() map[string]map[int]string {
	out := map[string]map[int]string{}
	for _, line := range strings.Split(strings.TrimSpace(plainTable), "\n") {
		f := strings.SplitN(line, " ", 3)
		if out[f[0]] == nil {
			out[f[0]] = map[int]string{}
		}
		out[f[0]][plainKinds[f[1]]] = f[2]
	}
	return out
}()

// plainCap is chapter 3's Cap, of numbers without bounds.
func plainCap(n *big.Int) *big.Int {
	bound := big.NewInt(1<<31 - 1)
	if n.CmpAbs(bound) <= 0 {
		return n
	}
	return bound.Mul(bound, big.NewInt(int64(n.Sign())))
}

// plainTimes is chapter 3's Times, of numbers without bounds. (Quo is towards 0.)
func plainTimes(a, b int) int {
	n := new(big.Int).Mul(plainCap(big.NewInt(int64(a))), plainCap(big.NewInt(int64(b))))
	return int(plainCap(n.Quo(n, big.NewInt(1000))).Int64())
}

// plainOne tells one property: P1601 by its table.
func plainOne(prop int, parent *api.Style, w set) int {
	name, v := plainNames[prop], w[prop]
	above := func(prop int) int {
		if parent == nil {
			return plainInitial[plainNames[prop]]
		}
		return parent[prop]
	}
	switch {
	case v.Kind == api.VInherit:
		return above(prop)
	case v.Kind == api.VInitial:
		return plainInitial[name]
	}
	what, known := plainRows[name][v.Kind]
	if !known && plainInherits[name] {
		return above(prop)
	}
	if !known {
		return plainInitial[name]
	}
	n := int(plainCap(big.NewInt(int64(v.N))).Int64())
	switch what {
	case "N":
		return n
	case "times parent N":
		return plainTimes(above(api.PSize), n)
	case "times parent N / 100":
		return int(new(big.Int).Quo(big.NewInt(int64(plainTimes(above(api.PSize), n))), big.NewInt(100)).Int64())
	case "times own N":
		return plainTimes(plainOne(api.PSize, parent, w), n)
	case "-1":
		return -1
	case "-2 - N":
		return -2 - n
	case "2^40 + N":
		return 1<<40 + n
	case "2^40":
		return 1 << 40
	}
	panic("no such word in the table: " + what)
}

// compare holds Of against the plain one.
func compare(t *testing.T, parent *api.Style, w set) {
	t.Helper()
	var want api.Style
	for prop := range want {
		want[prop] = plainOne(prop, parent, w)
	}
	if got := Of(parent, w); got != want {
		t.Fatalf("P1601: Of(%v, %v): %v, want %v", parent, w, got, want)
	}
}

// edges are numbers at and around every bound that the calls know.
var edges = []int{
	0, 1, -1, 2, -2, 3, -3, 49, 50, 51, 99, -99, 100, -100, 101, 255, 333, 500, -500, 999, -999, 1000, -1000, 1001, -1001,
	1500, -1500, 16000, 33333, -33333, 46340, 46341, -46341, 99999, 100000, -100000, 100001, 134217, 134218, 1465000, 16777215,
	api.MaxNum - 1, api.MaxNum, api.MaxNum + 1, 1 - api.MaxNum, -api.MaxNum, -api.MaxNum - 1, -api.MaxNum - 2,
	1<<32 - 1, 1 << 32, -1 << 32, 1 << 40, -1 << 40, 1<<40 + 1, math.MaxInt - 1, math.MaxInt, math.MinInt, math.MinInt + 1,
}

// oddKinds are all kinds of values, and some that there are not.
var oddKinds = []int{0, api.VKey, api.VPx, api.VEm, api.VPercent, api.VNumber, api.VColor, api.VInherit, api.VInitial, api.VUnset, -1, 10, 99, 256, 257, 258, 1 << 32, 1<<32 + 2, math.MaxInt, math.MinInt}

// oddParents are parents of which no two properties are the same, none of them what it is at first.
var oddParents = []*api.Style{
	nil,
	{5, 10000, 2, 1, 7, 8, 9, 10},
	{-5, -10000, -2, -1, -7, -8, -9, -10},
	{1 << 41, 1 << 42, 1 << 43, 1 << 44, 1 << 45, 1 << 46, 1 << 47, 1 << 48},
	{math.MinInt, math.MaxInt, math.MinInt + 1, math.MaxInt - 1, math.MinInt + 2, math.MaxInt - 2, math.MinInt + 3, math.MaxInt - 3},
	{math.MaxInt, math.MinInt, math.MaxInt - 1, math.MinInt + 1, math.MaxInt - 2, math.MinInt + 2, math.MaxInt - 3, math.MinInt + 3},
	{9, 1, 8, 7, 6, 5, 4, 3},
}

func TestP1601EachKind(t *testing.T) {
	for _, parent := range oddParents {
		for prop := range api.Props {
			for _, kind := range oddKinds {
				for _, n := range edges {
					var w set
					w[prop] = api.Value{Kind: kind, N: n}
					compare(t, parent, w)
				}
			}
		}
	}
}

func TestP1601EachSize(t *testing.T) {
	for _, size := range edges {
		parent := api.Style{5, size, 2, 1, 7, 8, 9, 10}
		for _, kind := range []int{0, api.VPx, api.VEm, api.VPercent} {
			for _, n := range edges {
				w := set{api.PSize: {Kind: kind, N: n}, api.PWidth: {Kind: api.VEm, N: 1500}, api.PMargin: {Kind: api.VEm, N: -n}}
				compare(t, &parent, w)
			}
		}
	}
}

// madeNumber makes a number by chance, often one near to what the calls know.
func madeNumber(chance *rand.Rand) int {
	switch chance.Intn(4) {
	case 0:
		return edges[chance.Intn(len(edges))]
	case 1:
		return int(chance.Uint64())
	case 2:
		return chance.Intn(1<<32) - 1<<31
	}
	return chance.Intn(200001) - 100000
}

// madeSet sets each property by chance, mostly to what it has values of.
func madeSet(chance *rand.Rand) set {
	var w set
	for prop := range w {
		w[prop] = api.Value{Kind: oddKinds[chance.Intn(len(oddKinds))], N: madeNumber(chance)}
		if chance.Intn(2) == 0 {
			w[prop].Kind = 1 + chance.Intn(9)
		}
	}
	return w
}

func TestP1601ByChance(t *testing.T) {
	chance := rand.New(rand.NewSource(1601))
	for range 200_000 {
		var parent *api.Style
		if chance.Intn(8) > 0 {
			parent = &api.Style{}
			for prop := range parent {
				parent[prop] = madeNumber(chance)
			}
		}
		compare(t, parent, madeSet(chance))
	}
}
