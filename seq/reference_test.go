package seq

import (
	"math/rand"
	"strings"
	"testing"

	"tapestrier/api"
	"tapestrier/cascade"
	"tapestrier/compute"
	"tapestrier/dom"
	"tapestrier/sel"
)

// plainStyle is P1701 of one element, word by word, from the element up.
func plainStyle(x *dom.Tree, e int, l []api.Rule) api.Style {
	if x.Depth(e) == 0 {
		return compute.Of(nil, cascade.Winners(x, e, l))
	}
	parent := plainStyle(x, x.Parent(e), l)
	return compute.Of(&parent, cascade.Winners(x, e, l))
}

// plainRun tells them in the tree's order, each at its number.
func plainRun(x *dom.Tree, l []api.Rule) []api.Style {
	out := make([]api.Style, x.Len())
	for _, e := range x.All() {
		out[e] = plainStyle(x, e, l)
	}
	return out
}

func newChance(seed int64) *rand.Rand { return rand.New(rand.NewSource(seed)) }

// oneOf tells one of these, by chance.
func oneOf[T any](chance *rand.Rand, l ...T) T { return l[chance.Intn(len(l))] }

// madeNodes makes the nodes of a tree of up to n elements, by chance.
func madeNodes(chance *rand.Rand, n int) []api.Node {
	l := make([]api.Node, 1+chance.Intn(n))
	for k := range l {
		l[k] = api.Node{Parent: k - 1, Tag: oneOf(chance, "a", "b", "C"), ID: oneOf(chance, "", "", "x", "y")}
		if k > 0 {
			l[k].Parent = oneOf(chance, k-1, max(0, k-1-chance.Intn(4)), chance.Intn(k))
		}
		for range chance.Intn(3) {
			l[k].Classes = append(l[k].Classes, oneOf(chance, "p", "q", "r"))
		}
		if chance.Intn(3) == 0 {
			l[k].Attrs = []api.Pair{{Name: oneOf(chance, "m", "n"), Text: oneOf(chance, "1", "2", "1 2", "1-2")}}
		}
	}
	return l
}

// madeSelector writes a selector, by chance; it may be none.
func madeSelector(chance *rand.Rand) string {
	s := ""
	for k := range oneOf(chance, 1, 1, 2, 3) {
		if k > 0 {
			s += oneOf(chance, " ", " ", ">", ">", " + ", "~", "~", "> >")
		}
		s += oneOf(chance, "a", "b", "c", "*", "*", "*", "")
		s += oneOf(chance, "", "", "", ".p", ".q", "#x", "[m]", "[n|='1']", ":first-child", ":nth-child( even )", ":not(.p, b)", ":is(a > b,.q)")
	}
	return s
}

// madeDeclaration writes a declaration, by chance; it may set nothing.
func madeDeclaration(chance *rand.Rand) string {
	name := oneOf(chance, "color", "font-size", "text-align", "display", "width", "margin", "opacity", "z-index")
	what := oneOf(chance, "inherit", "inherit", "initial", "unset", "3px", "-7", "?")
	if chance.Intn(4) > 0 {
		what = madeValue(chance, name)
	}
	return name + ":" + what + oneOf(chance, "", "", "", "!important") + ";"
}

// madeValue writes a value that the property has, by chance.
func madeValue(chance *rand.Rand, name string) string {
	switch name {
	case "color":
		return oneOf(chance, "red", "#0af", "blue", "#010203")
	case "text-align":
		return oneOf(chance, "left", "right", "center")
	case "display":
		return oneOf(chance, "none", "block", "inline")
	case "opacity", "z-index":
		return oneOf(chance, "0", "1", "3", ".5")
	}
	return oneOf(chance, "3px", "1.5em", "2em", "50%", "120%", "0")
}

// madeSheet writes a sheet, by chance, now and then a broken one.
func madeSheet(chance *rand.Rand) string {
	var out strings.Builder
	for range chance.Intn(12) {
		out.WriteString(madeSelector(chance))
		for chance.Intn(4) == 0 {
			out.WriteString("," + madeSelector(chance))
		}
		out.WriteString("{")
		for range chance.Intn(8) {
			out.WriteString(madeDeclaration(chance))
		}
		out.WriteString(oneOf(chance, "}", "}", "}", "}", "}", "}", "", ")}", "\"", "@x;"))
	}
	return out.String()
}

// madeBytes makes bytes, by chance, most of them of those that mean something to a sheet.
func madeBytes(chance *rand.Rand) string {
	const known = "ab.#*{}{}();:,>+~[]=\"'\\@-/ \n0123px%!"
	b := make([]byte, chance.Intn(60))
	for k := range b {
		b[k] = known[chance.Intn(len(known))]
		if chance.Intn(20) == 0 {
			b[k] = byte(chance.Intn(256))
		}
	}
	return string(b)
}

func TestP1701ByChance(t *testing.T) {
	chance := newChance(1701)
	bare, set := 0, 0
	for range 6_000 {
		nodes, css := madeNodes(chance, 20), madeSheet(chance)
		x, l := treeOf(t, nodes), sel.Sheet([]byte(css))
		want := plainRun(x, l)
		wantBoth(t, css, nodes, want)
		for _, s := range want {
			if s == compute.Root() {
				bare++
			} else {
				set++
			}
		}
	}
	if min(bare, set) < 10_000 {
		t.Errorf("too few: %d styles are the root's, %d are not", bare, set)
	}
}

// TestP1701AnyBytes: any bytes are a sheet.
func TestP1701AnyBytes(t *testing.T) {
	chance := newChance(170102)
	for range 20_000 {
		nodes, css := madeNodes(chance, 5), madeBytes(chance)
		wantBoth(t, css, nodes, plainRun(treeOf(t, nodes), sel.Sheet([]byte(css))))
	}
}

// TestP1701AnyNodes: any nodes are a tree or one error, dom.New's.
func TestP1701AnyNodes(t *testing.T) {
	chance := newChance(170103)
	trees, faults := 0, 0
	for range 20_000 {
		nodes, css := madeNodes(chance, 8), []byte(madeSheet(chance))
		for chance.Intn(2) == 0 {
			nodes[chance.Intn(len(nodes))].Parent = oneOf(chance, chance.Intn(12)-2, int(chance.Uint64()))
		}
		got, err := Spec(css, nodes)
		x, want := dom.New(nodes)
		if want != api.OK {
			faults++
			if err != want || len(got) != 0 {
				t.Fatalf("P1701: %v, %d, want %d\n%+v", got, err, want, nodes)
			}
			continue
		}
		trees++
		if err != api.OK {
			t.Fatalf("P1701: error %d\n%+v", err, nodes)
		}
		wantTable(t, "nodes by chance", got, plainRun(x, sel.Sheet(css)))
	}
	if min(trees, faults) < 5_000 {
		t.Errorf("too few: %d trees, %d faults", trees, faults)
	}
}
