package sel

import (
	"math/rand"
	"slices"
	"strconv"
	"strings"
	"testing"

	"tapestrier/api"
)

// way is one way to read tokens: what was read, and what is left.
type way[T any] struct {
	it   T
	left []api.Token
}

// reading tells all ways in which tokens begin with something: it never chooses, so that it can't choose wrong.
type reading[T any] func(t []api.Token) []way[T]

// nothing reads no token.
func nothing[T any](it T) reading[T] {
	return func(t []api.Token) []way[T] { return []way[T]{{it, t}} }
}

// one reads a token that is so.
func one(so func(api.Token) bool) reading[api.Token] {
	return func(t []api.Token) []way[api.Token] {
		if len(t) == 0 || !so(t[0]) {
			return nil
		}
		return []way[api.Token]{{t[0], t[1:]}}
	}
}

func kind(k int) reading[api.Token] {
	return one(func(a api.Token) bool { return a.Kind == k })
}

func sign(c int) reading[api.Token] {
	return one(func(a api.Token) bool { return a.Kind == api.TDelim && a.C == c })
}

func named(k int, name string) reading[api.Token] {
	return one(func(a api.Token) bool { return a.Kind == k && plainLower(a.Text) == name })
}

// any of these readings.
func anyOf[T any](l ...reading[T]) reading[T] {
	return func(t []api.Token) []way[T] {
		var out []way[T]
		for _, r := range l {
			out = append(out, r(t)...)
		}
		return out
	}
}

// then reads two things, one behind the other.
func then[A, B, C any](a reading[A], b reading[B], join func(A, B) C) reading[C] {
	return func(t []api.Token) []way[C] {
		var out []way[C]
		for _, first := range a(t) {
			for _, second := range b(first.left) {
				out = append(out, way[C]{join(first.it, second.it), second.left})
			}
		}
		return out
	}
}

func first[A, B any](a A, _ B) A  { return a }
func second[A, B any](_ A, b B) B { return b }

// as reads what r reads, as something else.
func as[A, B any](r reading[A], turn func(A) B) reading[B] {
	return then(r, nothing(0), func(a A, _ int) B { return turn(a) })
}

// white is TWhite or none: that as many as stand side by side are one is seen to ahead of all reading.
var white = anyOf(nothing(api.Token{}), kind(api.TWhite))

// amid reads what r reads, with white around it or none.
func amid[T any](r reading[T]) reading[T] { return then(then(white, r, second), white, first) }

// many reads none, one, or several, one behind the other.
func many[T any](r reading[T]) reading[[]T] {
	return func(t []api.Token) []way[[]T] {
		all := []way[[]T]{{nil, t}}
		for i := 0; i < len(all); i++ {
			for _, more := range r(all[i].left) {
				all = append(all, way[[]T]{append(slices.Clone(all[i].it), more.it), more.left})
			}
		}
		return all
	}
}

// once reads what r reads, each way to the same place once: two that mean something else there would be a fault of the document's words.
func once[T any](r reading[T], same func(a, b T) bool) reading[T] {
	return func(t []api.Token) []way[T] {
		var out []way[T]
		for _, w := range r(t) {
			i := slices.IndexFunc(out, func(o way[T]) bool { return len(o.left) == len(w.left) })
			if i < 0 {
				out = append(out, w)
			} else if !same(out[i].it, w.it) {
				panic("two meanings")
			}
		}
		return out
	}
}

// plainList is a list of selectors, as the document's sentence says it; init makes it, for it holds itself.
var plainList reading[[]api.Selector]

func init() {
	selector := amid(plainSelector())
	more := many(then(kind(api.TComma), selector, second))
	list := then(selector, more, func(s api.Selector, l []api.Selector) []api.Selector { return append([]api.Selector{s}, l...) })
	plainList = once(list, sameList)
}

func plainSelector() reading[api.Selector] {
	combs := []reading[int]{as(kind(api.TWhite), func(api.Token) int { return api.CWithin })}
	for c, comb := range map[int]int{62: api.CChild, 43: api.CNext, 126: api.CAfter} {
		combs = append(combs, as(amid(sign(c)), func(api.Token) int { return comb }))
	}
	part := func(comb int, c api.Compound) api.Part { return api.Part{Comb: comb, Compound: c} }
	compound := plainCompound()
	more := many(then(anyOf(combs...), compound, part))
	return then(compound, more, func(c api.Compound, l []api.Part) api.Selector {
		return api.Selector{Parts: append([]api.Part{{Compound: c}}, l...)}
	})
}

// change is one thing that is read of a compound, and what it makes of the compound.
type change func(c *api.Compound)

func plainCompound() reading[api.Compound] {
	tag := anyOf(
		nothing[change](nil),
		as(kind(api.TIdent), func(a api.Token) change { return func(c *api.Compound) { c.Tag = plainLower(a.Text) } }),
		as(sign(42), func(a api.Token) change { return func(c *api.Compound) {} }))
	units := many(anyOf(
		as(kind(api.THash), func(a api.Token) change { return func(c *api.Compound) { c.IDs = append(c.IDs, a.Text) } }),
		as(then(sign(46), kind(api.TIdent), second), func(a api.Token) change { return func(c *api.Compound) { c.Classes = append(c.Classes, a.Text) } }),
		as(plainAttr(), func(a api.Attr) change { return func(c *api.Compound) { c.Attrs = append(c.Attrs, a) } }),
		as(then(kind(api.TColon), plainPseudo(), second), func(p api.Pseudo) change {
			return func(c *api.Compound) { c.Pseudos = append(c.Pseudos, p) }
		})))
	all := then(tag, units, func(c change, l []change) []change { return append([]change{c}, l...) })
	return func(t []api.Token) []way[api.Compound] {
		var out []way[api.Compound]
		for _, w := range all(t) {
			if len(w.it) > 1 || w.it[0] != nil {
				out = append(out, way[api.Compound]{changed(w.it), w.left})
			}
		}
		return out
	}
}

// changed tells the compound that the changes make.
func changed(l []change) api.Compound {
	var c api.Compound
	for _, turn := range l {
		if turn != nil {
			turn(&c)
		}
	}
	return c
}

func plainAttr() reading[api.Attr] {
	operators := []reading[int]{as(sign(61), func(api.Token) int { return api.AIs })}
	for c, op := range map[int]int{126: api.AWord, 124: api.ADash, 94: api.ABegins, 36: api.AEnds, 42: api.AIn} {
		operators = append(operators, as(then(sign(c), sign(61), first), func(api.Token) int { return op }))
	}
	held := then(amid(anyOf(operators...)), amid(anyOf(kind(api.TIdent), kind(api.TString))), func(op int, a api.Token) api.Attr {
		return api.Attr{Op: op, Text: a.Text}
	})
	name := then(kind(api.TSquare), amid(kind(api.TIdent)), second)
	attr := then(name, anyOf(nothing(api.Attr{}), held), func(n api.Token, a api.Attr) api.Attr {
		return api.Attr{Name: plainLower(n.Text), Op: a.Op, Text: a.Text}
	})
	return once(then(attr, kind(api.TBack), first), func(a, b api.Attr) bool { return a == b })
}

func plainPseudo() reading[api.Pseudo] {
	var out []reading[api.Pseudo]
	for name, k := range map[string]int{"root": api.SRoot, "first-child": api.SFirst, "last-child": api.SLast, "only-child": api.SOnly, "empty": api.SEmpty} {
		out = append(out, as(named(api.TIdent, name), func(api.Token) api.Pseudo { return api.Pseudo{Kind: k} }))
	}
	nth := anyOf(
		as(named(api.TIdent, "odd"), func(api.Token) api.Pseudo { return api.Pseudo{Kind: api.SNth, A: 2, B: 1} }),
		as(named(api.TIdent, "even"), func(api.Token) api.Pseudo { return api.Pseudo{Kind: api.SNth, A: 2} }),
		as(one(func(a api.Token) bool { return a.Kind == api.TNumber && a.Whole }), func(a api.Token) api.Pseudo {
			return api.Pseudo{Kind: api.SNth, B: plainWhole(a.N)}
		}))
	out = append(out, then(then(named(api.TFunc, "nth-child"), amid(nth), second), kind(api.TEnd), first))
	for name, k := range map[string]int{"not": api.SNot, "is": api.SIs} {
		// The list is asked for only when all is made.
		list := func(t []api.Token) []way[[]api.Selector] { return plainList(t) }
		out = append(out, as(then(then(named(api.TFunc, name), list, second), kind(api.TEnd), first), func(l []api.Selector) api.Pseudo {
			return api.Pseudo{Kind: k, List: l}
		}))
	}
	return anyOf(out...)
}

// plainWhole is the whole part of thousandths, by the digits of their text.
func plainWhole(n int) int {
	digits := strconv.Itoa(n)
	below := strings.HasPrefix(digits, "-")
	digits = strings.TrimPrefix(digits, "-")
	if len(digits) < 4 {
		return 0
	}
	out, _ := strconv.Atoi(digits[:len(digits)-3])
	if below {
		return -out
	}
	return out
}

// plainLower is text.Lower said plainly.
func plainLower(s string) string {
	for c := 'A'; c <= 'Z'; c++ {
		s = strings.ReplaceAll(s, string(c), string(c+32))
	}
	return s
}

// plainDepth tells how many lists of not and is lie in each other.
func plainDepth(l []api.Selector) int {
	deepest := 0
	for _, s := range l {
		for _, p := range s.Parts {
			for _, one := range p.Compound.Pseudos {
				if one.Kind == api.SNot || one.Kind == api.SIs {
					deepest = max(deepest, 1+plainDepth(one.List))
				}
			}
		}
	}
	return deepest
}

// plainParse is P801 by all ways of reading: the one that reads to the end is it.
func plainParse(t []api.Token) ([]api.Selector, bool) {
	if len(t) > 1000 {
		return nil, false
	}
	t = slices.CompactFunc(slices.Clone(t), func(a, b api.Token) bool { return a.Kind == api.TWhite && b.Kind == api.TWhite })
	for _, w := range plainList(t) {
		if len(w.left) == 0 && plainDepth(w.it) <= 8 {
			return w.it, true
		}
	}
	return nil, false
}

func sameList(a, b []api.Selector) bool {
	return slices.EqualFunc(a, b, func(a, b api.Selector) bool { return slices.EqualFunc(a.Parts, b.Parts, samePart) })
}

func samePart(a, b api.Part) bool {
	c, d := a.Compound, b.Compound
	return a.Comb == b.Comb && c.Tag == d.Tag && slices.Equal(c.IDs, d.IDs) && slices.Equal(c.Classes, d.Classes) && slices.Equal(c.Attrs, d.Attrs) && slices.EqualFunc(c.Pseudos, d.Pseudos, samePseudo)
}

func samePseudo(a, b api.Pseudo) bool {
	return a.Kind == b.Kind && a.A == b.A && a.B == b.B && sameList(a.List, b.List)
}

// compare holds Parse of the tokens against the plain one, and tells whether they are a list.
func compare(t *testing.T, l []api.Token) bool {
	t.Helper()
	got, ok := Parse(l)
	want, wantOk := plainParse(l)
	if ok != wantOk || !sameList(got, want) {
		t.Fatalf("P801: Parse(%+v):\n%+v, %v, want\n%+v, %v", l, got, ok, want, wantOk)
	}
	return ok
}

// signs: one token of each part that the document's words tell apart.
var signs = []api.Token{
	{Kind: api.TIdent, Text: "Name"},
	{Kind: api.TIdent, Text: "ODD"},
	{Kind: api.TIdent, Text: "First-Child"},
	{Kind: api.TDelim, C: '*'},
	{Kind: api.TDelim, C: '.'},
	{Kind: api.TDelim, C: '>'},
	{Kind: api.TDelim, C: '~'},
	{Kind: api.TDelim, C: '='},
	{Kind: api.TDelim, C: '|'},
	{Kind: api.TWhite},
	{Kind: api.TComma},
	{Kind: api.THash, Text: "Name"},
	{Kind: api.TString, Text: "Name"},
	{Kind: api.TNumber, N: -7000, Whole: true},
	{Kind: api.TNumber, N: 2000},
	{Kind: api.TColon},
	{Kind: api.TFunc, Text: "NOT"},
	{Kind: api.TFunc, Text: "Nth-Child"},
	{Kind: api.TEnd},
	{Kind: api.TSquare},
	{Kind: api.TBack},
	{Kind: api.TOpen},
}

// marked tells the tokens, each name told apart by its place.
func marked(l []api.Token) []api.Token {
	l = slices.Clone(l)
	for i := range l {
		if l[i].Text == "Name" {
			l[i].Text += strconv.Itoa(i)
		}
	}
	return l
}

// compareAll holds Parse against the plain one at all rows that begin with these tokens and have up to n more; it tells how many of them are lists.
func compareAll(t *testing.T, row []api.Token, n int) int {
	t.Helper()
	lists := 0
	if compare(t, marked(row)) {
		lists++
	}
	if n == 0 {
		return lists
	}
	for _, one := range signs {
		lists += compareAll(t, append(slices.Clip(row), one), n-1)
	}
	return lists
}

func TestP801AllShortRows(t *testing.T) {
	if got := compareAll(t, nil, 4); got < 500 {
		t.Errorf("only %d rows are lists", got)
	}
	for _, ahead := range []string{"a", "a ", "a>", "a ~", ".", "#a:", "[", "[a", "[ a ", "[a=", "[a|=", "[a*= b", "[a='b'", "[a]", ":nth-child(", ":nth-child( odd", ":nth-child(2 ", ":not(", ":is( a", ":is(a)", ":is(:not(", "a,", "a /**/ "} {
		compareAll(t, tokensOf(ahead), 3)
	}
}

// madeList tells a list of selectors as a text, by chance.
func madeList(chance *rand.Rand, depth int) string {
	var l []string
	for range 1 + chance.Intn(2) {
		s := madeCompound(chance, depth)
		for range chance.Intn(3) {
			comb := []string{" ", ">", "+", "~", " /**/ ", " > ", "+ ", " ~"}[chance.Intn(8)]
			s += comb + madeCompound(chance, depth)
		}
		l = append(l, s)
	}
	return strings.Join(l, []string{",", " , ", ", /**/ "}[chance.Intn(3)])
}

func madeCompound(chance *rand.Rand, depth int) string {
	s := []string{"", "*", "a", "B", "\\*"}[chance.Intn(5)]
	units := []string{"#x", ".y", ".Y", "[m]", "[ M = 'n' ]", "[m~=n]", "[m |= N]", "[m^= \"\"]", "[m$=n]", "[m*=n ]", ":root", ":Empty", ":first-child", ":LAST-child", ":only-child", ":nth-child(odd)", ":nth-child( even)", ":nth-child(3 )", ":nth-child( -12 )"}
	for n := chance.Intn(3); n > 0 || s == ""; n-- {
		if depth > 0 && chance.Intn(4) == 0 {
			s += []string{":not(", ":is( ", ":IS("}[chance.Intn(3)] + madeList(chance, depth-1) + []string{")", " )"}[chance.Intn(2)]
		} else {
			s += units[chance.Intn(len(units))]
		}
	}
	return s
}

// spoilt tells the tokens with one of them left out, put in, put in the place of another, or said twice, by chance.
func spoilt(chance *rand.Rand, l []api.Token) []api.Token {
	l = slices.Clone(l)
	i := chance.Intn(len(l))
	one := signs[chance.Intn(len(signs))]
	switch chance.Intn(4) {
	case 0:
		return slices.Delete(l, i, i+1)
	case 1:
		return slices.Insert(l, i, one)
	case 2:
		l[i] = one
		return l
	}
	return slices.Insert(l, i, l[chance.Intn(len(l))])
}

func TestP801LongRows(t *testing.T) {
	chance := rand.New(rand.NewSource(8))
	for range 5_000 {
		s := madeList(chance, 3)
		l := tokensOf(s)
		if !compare(t, l) {
			t.Fatalf("P801: %q is no list", s)
		}
		lists := 0
		for range 5 {
			if compare(t, spoilt(chance, l)) {
				lists++
			}
		}
		if lists == 5 {
			compare(t, spoilt(chance, spoilt(chance, l)))
		}
	}
}

func FuzzP801(f *testing.F) {
	f.Add("a > .b")
	f.Add("A#b.c[d ~= 'e']:not( :is(f, *) ) + :nth-child( 3 ), :Root")
	f.Fuzz(func(t *testing.T, s string) {
		if len(s) < 200 {
			compare(t, tokensOf(s))
		}
	})
}
