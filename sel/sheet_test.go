package sel

import (
	"bytes"
	"math/rand"
	"slices"
	"strings"
	"testing"
	"unsafe"

	"tapestrier/api"
	"tapestrier/decl"
	"tapestrier/rules"
	"tapestrier/value"
)

// rule is a rule by the text of its selectors, and what it sets.
type rule struct {
	sels string
	sets []api.Set
}

func sets(l ...api.Set) []api.Set { return l }

// px sets a property to so many thousandths, and urgent does so as something important.
func px(prop, n int) api.Set { return api.Set{Prop: prop, Value: api.Value{Kind: api.VPx, N: n}} }
func urgent(one api.Set) api.Set {
	one.Important = true
	return one
}

// wantRules asks for the rules of the sheet css.
func wantRules(t *testing.T, css string, want ...rule) {
	t.Helper()
	got := Sheet([]byte(css))
	same := slices.EqualFunc(got, want, func(a api.Rule, b rule) bool { return show(a.Sels) == b.sels && slices.Equal(a.Sets, b.sets) })
	if !same {
		t.Errorf("P802: %q:\n%+v, want\n%+v", css, got, want)
	}
}

func TestP802(t *testing.T) {
	width := sets(px(api.PWidth, 2000))
	wantRules(t, "")
	wantRules(t, " \n/* a{} */")
	wantRules(t, "a{width:2px}", rule{"<a>", width})
	wantRules(t, "a { width : 2px ; }", rule{"<a>", width})
	wantRules(t, "A , .B>c\r\n{\r\nWidth: 2PX\r\n}\r\n", rule{"<a>, <.B>><c>", width})
	wantRules(t, "a{}", rule{"<a>", nil})
	wantRules(t, "a{}a{width:2px}a{}", rule{"<a>", nil}, rule{"<a>", width}, rule{"<a>", nil})
	// What is set stands in order, also twice; what is nothing is left out.
	wantRules(t, "a{margin:1px!important;x:y;width:2px;margin:3px;color:12;width:-2px}", rule{"<a>", sets(urgent(px(api.PMargin, 1000)), px(api.PWidth, 2000), px(api.PMargin, 3000))})
	wantRules(t, "a{height:2px;color}", rule{"<a>", nil})
	wantRules(t, "a{b{width:2px}}", rule{"<a>", nil})
	wantRules(t, "a{@x{width:2px}margin:0;}", rule{"<a>", sets(px(api.PMargin, 0))})
	// What is not closed is closed by the end.
	wantRules(t, "a{width:2px", rule{"<a>", width})
	wantRules(t, "a{", rule{"<a>", nil})
	wantRules(t, "a{}b{width:2px;margin:(", rule{"<a>", nil}, rule{"<b>", width})
	wantRules(t, "a")
	wantRules(t, "a{}b", rule{"<a>", nil})
	// At-rules are no rules.
	wantRules(t, "@x;a{width:2px}@y b{c{}}@z", rule{"<a>", width})
	// Bytes that no text has.
	wantRules(t, "\xff{width:2px}", rule{"<\uFFFD>", width})
	wantRules(t, ".\x00{}", rule{"<.\uFFFD>", nil})
	wantRules(t, "a\f.b\r>c{}", rule{"<a>_<.b>><c>", nil})
}

// A rule whose selectors can't be read is left out whole, and those beside it stand.
func TestP802NoSelectors(t *testing.T) {
	for _, s := range []string{"", ",", "a,", ",a", "a:hover", "a,:x,b", "1", "a>", ">a", "a;b", "a)", "]", "}", ":not()", "[a=1]", "a@b", "a(b)", "(a{b})", "[a{b}]", "*/", "<!--", "-->", "\"\n", ":nth-child(2n)", strings.Repeat(":is(", 9) + "a" + strings.Repeat(")", 9), strings.Repeat("a,", 500) + "a"} {
		wantRules(t, s+"{width:2px}")
		wantRules(t, "x{margin:1px}"+s+" {width:2px}y{width:2px", rule{"<x>", sets(px(api.PMargin, 1000))}, rule{"<y>", sets(px(api.PWidth, 2000))})
	}
	// 1,000 tokens, of which the blank ahead of the block is one.
	want := strings.TrimSuffix(strings.Repeat("<a>, ", 500), ", ")
	wantRules(t, strings.Repeat("a,", 499)+"a{}", rule{want, nil})
	wantRules(t, strings.Repeat("a,", 499)+"a {}", rule{want, nil})
	wantRules(t, strings.Repeat("a,", 499)+" a {}")
}

func TestP802MaxSheet(t *testing.T) {
	for _, filler := range []string{" ", "a{}", "\x00", "/", "{", "a:is(", "\xff"} {
		for size := api.MaxSheet - 2; size <= api.MaxSheet+2; size++ {
			css := []byte("a{width:2px}" + strings.Repeat(filler, size))[:size]
			if got := Sheet(css); (len(got) > 0) != (size <= api.MaxSheet) {
				t.Errorf("P802: %d bytes with %q: %d rules", size, filler, len(got))
			}
		}
	}
	if got := Sheet(make([]byte, 10*api.MaxSheet)); len(got) != 0 {
		t.Errorf("P802: a long sheet: %d rules", len(got))
	}
	// Code points are not what is counted.
	wide := []byte("a{}" + strings.Repeat("\u20ac", api.MaxSheet/3))
	if got := Sheet(wide); len(wide) <= api.MaxSheet || len(got) != 0 {
		t.Errorf("P802: %d bytes: %d rules", len(wide), len(got))
	}
}

// plainSheet is P802 by the plain reading of selectors.
func plainSheet(css []byte) []api.Rule {
	var out []api.Rule
	for _, raw := range rules.Parse(tokensOf(string(css))) {
		if l, ok := plainParse(raw.Prelude); ok {
			out = append(out, api.Rule{Sels: l, Sets: value.Sets(decl.Parse(raw.Block))})
		}
	}
	return out
}

func sameRule(a, b api.Rule) bool { return sameList(a.Sels, b.Sels) && slices.Equal(a.Sets, b.Sets) }

// madeSheet tells a sheet, by chance, of rules that are right and wrong, and of pieces of them.
func madeSheet(chance *rand.Rand) string {
	pieces := []string{"{", "}", ";", "@x", "@y{z{}}", "color:red;", "width:2px!important;", "margin:0", "a:hover", "a", ",", " ", "\xff", "\x00", "/*", "*/", "\"", "(", ")", "[", "]", "\r\n"}
	var out strings.Builder
	for range chance.Intn(8) {
		if chance.Intn(3) > 0 {
			out.WriteString(madeList(chance, 1) + "{color:#123;opacity:.5}")
		}
		for range chance.Intn(3) {
			out.WriteString(pieces[chance.Intn(len(pieces))])
		}
	}
	return out.String()
}

func TestP802Sheets(t *testing.T) {
	chance := rand.New(rand.NewSource(802))
	some := 0
	for range 3_000 {
		css := []byte(madeSheet(chance))
		got, want := Sheet(css), plainSheet(css)
		if !slices.EqualFunc(got, want, sameRule) {
			t.Fatalf("P802: %q:\n%+v, want\n%+v", css, got, want)
		}
		some += len(got)
	}
	if some < 3_000 {
		t.Errorf("only %d rules in all", some)
	}
}

// Any bytes are a sheet.
func TestP802AllBytes(t *testing.T) {
	chance := rand.New(rand.NewSource(2))
	for range 2_000 {
		css := make([]byte, chance.Intn(300))
		for i := range css {
			css[i] = byte(chance.Intn(256))
		}
		Sheet(css)
	}
	for _, s := range []string{"{", "}", "(", "[", "a{", "a{b:", ":not(", ":is(a,", "[a=", "@x{", "@x(", "a{}", "a,", "\"", "\\", "/*", "a:is(b){c:d}", "{}", "a{b:(", "\x00", "\xff"} {
		Sheet([]byte(strings.Repeat(s, api.MaxSheet/len(s))))
	}
}

func FuzzP802(f *testing.F) {
	f.Add([]byte("a, .b { color: red; x: y; width: 2px !important }\n@m { c{} } :x { width: 1px } d {} e { margin: 0"))
	f.Fuzz(func(t *testing.T, css []byte) {
		if len(css) > 500 {
			return
		}
		if got, want := Sheet(css), plainSheet(css); !slices.EqualFunc(got, want, sameRule) {
			t.Errorf("P802: %q:\n%+v, want\n%+v", css, got, want)
		}
	})
}

// span is a piece of memory.
type span struct{ from, to uintptr }

// spansOf tells the memory of a list, its spare room too (none of a list without room).
func spansOf[T any](l []T) []span {
	if cap(l) == 0 {
		return nil
	}
	from := uintptr(unsafe.Pointer(unsafe.SliceData(l)))
	return []span{{from, from + uintptr(cap(l))*unsafe.Sizeof(l[:1][0])}}
}

// listSpans tells the memory of all lists of selectors.
func listSpans(l []api.Selector) []span {
	out := spansOf(l)
	for _, s := range l {
		out = append(out, spansOf(s.Parts)...)
		for _, p := range s.Parts {
			c := p.Compound
			out = slices.Concat(out, spansOf(c.IDs), spansOf(c.Classes), spansOf(c.Attrs), spansOf(c.Pseudos))
			for _, one := range c.Pseudos {
				out = append(out, listSpans(one.List)...)
			}
		}
	}
	return out
}

func ruleSpans(l []api.Rule) []span {
	out := spansOf(l)
	for _, one := range l {
		out = slices.Concat(out, listSpans(one.Sels), spansOf(one.Sets))
	}
	return out
}

// wantApart asks that no two pieces of memory have anything in common.
func wantApart(t *testing.T, what string, l []span) {
	t.Helper()
	slices.SortFunc(l, func(a, b span) int { return int(a.from) - int(b.from) })
	for i := 1; i < len(l); i++ {
		if l[i].from < l[i-1].to {
			t.Errorf("P803: %q: lists share memory", what)
		}
	}
}

const rich = "Div#Id.Class#other.More[Attr='Text'][Bare]:not(A b, :is(.Deep, [Name|=Ident])):nth-child(3) > *.x + y ~ z, Second:root, "

func TestP803Parse(t *testing.T) {
	for _, s := range []string{"", "a", "a,b", "a:hover", rich + rich + "last", rich, ":is(:is(a,b),:not(c))", "#a#b#c.d.e.f[g][h][i]:root:root:root", " ", "a /**/ b"} {
		l := tokensOf(s + ",.Behind:not(c)>d#e[f=g]")
		size := len(tokensOf(s))
		kept := slices.Clone(l[:cap(l)])
		handed := l[:size]
		first, ok := Parse(handed)
		again, okAgain := Parse(handed)
		clipped, okClipped := Parse(slices.Clone(handed))
		if !slices.Equal(l[:cap(l)], kept) {
			t.Errorf("P803: %q is changed", s)
		}
		if ok != okAgain || ok != okClipped || !sameList(first, again) || !sameList(first, clipped) {
			t.Errorf("P803: %q: %s, %s, %s", s, show(first), show(again), show(clipped))
		}
		wantApart(t, s, slices.Concat(spansOf(l), listSpans(first), listSpans(again), listSpans(clipped)))
		// What is written into the tokens afterwards is not seen in the answer.
		want := show(again)
		clear(l[:cap(l)])
		if show(first) != want || show(again) != want {
			t.Errorf("P803: %q: an answer keeps the tokens", s)
		}
	}
}

// texts tells all names and texts of selectors.
func texts(l []api.Selector) []string {
	var out []string
	for _, s := range l {
		for _, p := range s.Parts {
			out = slices.Concat(out, []string{p.Compound.Tag}, p.Compound.IDs, p.Compound.Classes)
			for _, a := range p.Compound.Attrs {
				out = append(out, a.Name, a.Text)
			}
			for _, one := range p.Compound.Pseudos {
				out = append(out, texts(one.List)...)
			}
		}
	}
	return out
}

// Texts are copied, too, those that stand as they are.
func TestP803Texts(t *testing.T) {
	l := tokensOf("tag#ident.class[name=text]:not([other='string'])")
	got, ok := Parse(l)
	if told := texts(got); !ok || !slices.Equal(told, []string{"tag", "ident", "class", "name", "text", "", "other", "string"}) {
		t.Fatalf("P803: %q, %v", told, ok)
	}
	for _, told := range texts(got) {
		for _, one := range l {
			if told != "" && unsafe.StringData(told) == unsafe.StringData(one.Text) {
				t.Errorf("P803: %q shares memory with its token", told)
			}
		}
	}
}

func TestP803Sheet(t *testing.T) {
	for _, s := range []string{"", "a{}", "a{color:red}b{color:red}", rich + "x{color:red;margin:0;width:2px;opacity:1}" + rich + "y{z-index:3}:x{}", "@x{}a{b:c"} {
		room := []byte(s + "behind{color:blue}")
		kept := bytes.Clone(room)
		handed := room[:len(s)]
		first, again, clipped := Sheet(handed), Sheet(handed), Sheet(bytes.Clone(handed))
		if !bytes.Equal(room, kept) {
			t.Errorf("P803: %q is changed", s)
		}
		if !slices.EqualFunc(first, again, sameRule) || !slices.EqualFunc(first, clipped, sameRule) {
			t.Errorf("P803: %q: %+v, %+v, %+v", s, first, again, clipped)
		}
		wantApart(t, s, slices.Concat(spansOf(room), ruleSpans(first), ruleSpans(again), ruleSpans(clipped)))
		clear(room)
		if !slices.EqualFunc(first, Sheet(kept[:len(s)]), sameRule) {
			t.Errorf("P803: %q: an answer keeps the sheet", s)
		}
	}
}
