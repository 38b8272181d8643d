package rules

import (
	"math"
	"slices"
	"strings"
	"testing"

	"tapestrier/api"
	"tapestrier/text"
	"tapestrier/tok"
)

// raw is a rule by the texts of what it holds.
type raw struct{ prelude, block string }

func tokensOf(s string) []api.Token { return tok.Tokens(text.Prepare([]byte(s))) }

// wantSkips asks for Skip at each token of the sheet s.
func wantSkips(t *testing.T, s string, places ...int) {
	t.Helper()
	l := tokensOf(s)
	if len(l) != len(places) {
		t.Fatalf("%q has %d tokens, not %d", s, len(l), len(places))
	}
	for i, place := range places {
		if got := Skip(l, i); got != place {
			t.Errorf("P501: Skip(%q, %d): %d, want %d", s, i, got, place)
		}
	}
}

// wantRules asks for the rules of the sheet s.
func wantRules(t *testing.T, s string, rules ...raw) {
	t.Helper()
	got := Parse(tokensOf(s))
	same := slices.EqualFunc(got, rules, func(a api.Raw, b raw) bool {
		return slices.Equal(a.Prelude, tokensOf(b.prelude)) && slices.Equal(a.Block, tokensOf(b.block))
	})
	if !same {
		t.Errorf("P502: Parse(%q):\n%+v, want\n%+v", s, got, rules)
	}
}

func TestP501OneToken(t *testing.T) {
	opening := []int{api.TOpen, api.TParen, api.TFunc, api.TSquare}
	for kind := -3; kind <= 30; kind++ {
		if slices.Contains(opening, kind) {
			continue
		}
		for _, behind := range []int{0, api.TIdent, api.TOpen, api.TClose, api.TEnd, api.TBack, kind} {
			l := []api.Token{{Kind: kind}, {Kind: behind}}
			if got := Skip(l, 0); got != 1 {
				t.Errorf("P501: Skip at kind %d ahead of kind %d: %d, want 1", kind, behind, got)
			}
			if got := Skip(l[:1], 0); got != 1 {
				t.Errorf("P501: Skip at kind %d alone: %d, want 1", kind, got)
			}
		}
	}
	wantSkips(t, "a b", 1, 2, 3)
	wantSkips(t, "@a #b \"c\" 1 2% 3em .:;,", 1, 2, 3, 4, 5, 6, 7, 8, 9, 10, 11, 12, 13, 14, 15, 16)
	wantSkips(t, ")}]", 1, 2, 3)
	wantSkips(t, "}{}", 1, 3, 3)
}

func TestP501OwnClosing(t *testing.T) {
	wantSkips(t, "{}x", 2, 2, 3)
	wantSkips(t, "()x", 2, 2, 3)
	wantSkips(t, "f()x", 2, 2, 3)
	wantSkips(t, "[]x", 2, 2, 3)
	wantSkips(t, "{a}x", 3, 2, 3, 4)
	wantSkips(t, "(a)x", 3, 2, 3, 4)
	wantSkips(t, "f(a)x", 3, 2, 3, 4)
	wantSkips(t, "[a]x", 3, 2, 3, 4)
	wantSkips(t, "{;@a:,}}", 6, 2, 3, 4, 5, 6, 7)
}

func TestP501OtherClosing(t *testing.T) {
	wantSkips(t, "{)]}x", 4, 2, 3, 4, 5)
	wantSkips(t, "(}])x", 4, 2, 3, 4, 5)
	wantSkips(t, "f(}])x", 4, 2, 3, 4, 5)
	wantSkips(t, "[)}]x", 4, 2, 3, 4, 5)
	wantSkips(t, "(a{b)c}d", 8, 2, 7, 4, 5, 6, 7, 8)
	wantSkips(t, "[(]) x", 6, 4, 3, 4, 5, 6)
	// A function's closing token is a paren's; each closes one of them.
	wantSkips(t, "f((a)b)c", 6, 4, 3, 4, 5, 6, 7)
	wantSkips(t, "(f(a)b)c", 6, 4, 3, 4, 5, 6, 7)
}

func TestP501NotClosed(t *testing.T) {
	wantSkips(t, "{", 1)
	wantSkips(t, "(", 1)
	wantSkips(t, "f(", 1)
	wantSkips(t, "[", 1)
	wantSkips(t, "{a)", 3, 2, 3)
	wantSkips(t, "(a]", 3, 2, 3)
	wantSkips(t, "f(a}", 3, 2, 3)
	wantSkips(t, "[a}", 3, 2, 3)
	wantSkips(t, "{{}", 3, 3, 3)
	wantSkips(t, "((", 2, 2)
	wantSkips(t, "{(}x", 4, 4, 3, 4)
}

func TestP501Nested(t *testing.T) {
	wantSkips(t, "{([f({})])}x", 10, 9, 8, 7, 6, 6, 7, 8, 9, 10, 11)
	wantSkips(t, "{{}{}}{}", 6, 3, 3, 5, 5, 6, 8, 8)
	wantSkips(t, "[[]]]", 4, 3, 3, 4, 5)
	wantSkips(t, "(())x)", 4, 3, 3, 4, 5, 6)
}

// deep is the sheet of n things of each kind in each other, closed.
func deep(n int) []api.Token {
	opening := []int{api.TOpen, api.TParen, api.TFunc, api.TSquare}
	closing := []int{api.TBack, api.TEnd, api.TEnd, api.TClose}
	var l []api.Token
	for range n {
		for _, kind := range opening {
			l = append(l, api.Token{Kind: kind})
		}
	}
	for range n {
		for _, kind := range closing {
			l = append(l, api.Token{Kind: kind})
		}
	}
	return l
}

func TestP501Deep(t *testing.T) {
	const n = 500_000
	l := append(deep(n), api.Token{Kind: api.TIdent})
	for _, one := range []struct{ from, behind int }{{0, 8 * n}, {1, 8*n - 1}, {4*n - 1, 4*n + 1}, {4 * n, 4*n + 1}, {8 * n, 8*n + 1}} {
		if got := Skip(l, one.from); got != one.behind {
			t.Errorf("P501: Skip of deep things at %d: %d, want %d", one.from, got, one.behind)
		}
	}
	if got := Skip(l[:4*n], 0); got != 4*n {
		t.Errorf("P501: Skip of deep things that are not closed: %d, want %d", got, 4*n)
	}
}

func TestP501NoToken(t *testing.T) {
	for _, s := range []string{"", "a", "{}", "({[", "a b"} {
		l := tokensOf(s)
		n := len(l)
		for _, i := range []int{-1, -2, -n - 1, math.MinInt, math.MinInt32, n, n + 1, 2*n + 7, math.MaxInt32, math.MaxInt} {
			if got := Skip(l, i); got != i {
				t.Errorf("P501: Skip(%q, %d): %d, want %d", s, i, got, i)
			}
		}
	}
	// Spare room behind the tokens holds none of them.
	room := tokensOf("{a}")
	if got := Skip(room[:2], 2); got != 2 {
		t.Errorf("P501: Skip in spare room: %d, want 2", got)
	}
	if got := Skip(room[:2], 0); got != 2 {
		t.Errorf("P501: Skip up to spare room: %d, want 2", got)
	}
	if got := Skip([]api.Token{}, 0); got != 0 {
		t.Errorf("P501: Skip of an empty list: %d, want 0", got)
	}
}

func TestP502None(t *testing.T) {
	wantRules(t, "")
	wantRules(t, " ")
	wantRules(t, " /**/ \n/**/\t")
	if got := Parse([]api.Token{}); len(got) != 0 {
		t.Errorf("P502: Parse of an empty list: %+v", got)
	}
}

func TestP502Example(t *testing.T) {
	wantRules(t, "a { b }", raw{"a ", " b "})
}

func TestP502Rules(t *testing.T) {
	wantRules(t, "a{b}", raw{"a", "b"})
	wantRules(t, "a{b}c{d}e{f}", raw{"a", "b"}, raw{"c", "d"}, raw{"e", "f"})
	wantRules(t, " a{b} \n c{d}/**/ /**/ e{f} ", raw{"a", "b"}, raw{"c", "d"}, raw{"e", "f"})
	wantRules(t, "a b > c , d { e : f ; g }", raw{"a b > c , d ", " e : f ; g "})
	wantRules(t, "a{b}a{b}", raw{"a", "b"}, raw{"a", "b"})
}

func TestP502Empty(t *testing.T) {
	wantRules(t, "{x}", raw{"", "x"})
	wantRules(t, " {x}", raw{"", "x"})
	wantRules(t, "{}", raw{"", ""})
	wantRules(t, "{}{}", raw{"", ""}, raw{"", ""})
	wantRules(t, "a{}", raw{"a", ""})
	wantRules(t, "a{ }", raw{"a", " "})
	wantRules(t, "a{}b{}", raw{"a", ""}, raw{"b", ""})
	wantRules(t, "a{b}{c}", raw{"a", "b"}, raw{"", "c"})
}

func TestP502NotClosed(t *testing.T) {
	wantRules(t, "a{", raw{"a", ""})
	wantRules(t, "{", raw{"", ""})
	wantRules(t, "a{b", raw{"a", "b"})
	wantRules(t, "a{b ", raw{"a", "b "})
	wantRules(t, "a{}b{", raw{"a", ""}, raw{"b", ""})
	wantRules(t, "a{{}", raw{"a", "{}"})
	wantRules(t, "a{b{c}", raw{"a", "b{c}"})
	wantRules(t, "a{{", raw{"a", "{"})
	// A last token that is a TClose need not be the block's own.
	wantRules(t, "a{(}", raw{"a", "(}"})
	wantRules(t, "a{f(}", raw{"a", "f(}"})
	wantRules(t, "a{[}", raw{"a", "[}"})
	wantRules(t, "a{[{}}", raw{"a", "[{}}"})
	wantRules(t, "a{(}b{c}", raw{"a", "(}b{c}"})
}

func TestP502ThingsInThePrelude(t *testing.T) {
	wantRules(t, "a[b=c]{d}", raw{"a[b=c]", "d"})
	wantRules(t, "a({x})b{c}", raw{"a({x})b", "c"})
	wantRules(t, "({x})b{c}", raw{"({x})b", "c"})
	wantRules(t, "[{x}]b{c}", raw{"[{x}]b", "c"})
	wantRules(t, "[({x};@y)]{c}", raw{"[({x};@y)]", "c"})
	wantRules(t, ":not(.x,[y]) z{c}", raw{":not(.x,[y]) z", "c"})
	// What is not closed holds all that is behind it.
	wantRules(t, "a[{]b{}")
	wantRules(t, "a(b{c}")
	wantRules(t, "f({}b{c}")
	wantRules(t, "a{}([b{c}", raw{"a", ""})
}

func TestP502OtherTokensInThePrelude(t *testing.T) {
	wantRules(t, "a}b{c", raw{"a}b", "c"})
	wantRules(t, "}a{b}", raw{"}a", "b"})
	wantRules(t, "a{b}}c{d}", raw{"a", "b"}, raw{"}c", "d"})
	wantRules(t, ")a]{b}", raw{")a]", "b"})
	wantRules(t, "a;b{c}", raw{"a;b", "c"})
	wantRules(t, ";a{b}", raw{";a", "b"})
	wantRules(t, "a{b};c{d}", raw{"a", "b"}, raw{";c", "d"})
	wantRules(t, "a @b;c{d}", raw{"a @b;c", "d"})
	wantRules(t, "a@b{d}e{f}", raw{"a@b", "d"}, raw{"e", "f"})
	wantRules(t, "}@b{d}", raw{"}@b", "d"})
	wantRules(t, "a\"\n{b}", raw{"a\"\n", "b"})
	wantRules(t, "\"{\"{'}'}", raw{"\"{\"", "'}'"})
}

func TestP502ThingsInTheBlock(t *testing.T) {
	wantRules(t, "a{b{c}d(})}e{f", raw{"a", "b{c}d(})"}, raw{"e", "f"})
	wantRules(t, "a{{{}{}}}e{f}", raw{"a", "{{}{}}"}, raw{"e", "f"})
	wantRules(t, "a{(})[}]f(})}e{f}", raw{"a", "(})[}]f(})"}, raw{"e", "f"})
	wantRules(t, "a{)]}e{f}", raw{"a", ")]"}, raw{"e", "f"})
	wantRules(t, "a{@b{c}d;@e;}e{f}", raw{"a", "@b{c}d;@e;"}, raw{"e", "f"})
	wantRules(t, "a{;}e{f}", raw{"a", ";"}, raw{"e", "f"})
}

func TestP502WithoutABlock(t *testing.T) {
	wantRules(t, "a")
	wantRules(t, "a b")
	wantRules(t, "}")
	wantRules(t, ";")
	wantRules(t, "a;")
	wantRules(t, "a @b;")
	wantRules(t, "(a{b})")
	wantRules(t, "a{b}c", raw{"a", "b"})
	wantRules(t, "a{b} }", raw{"a", "b"})
	wantRules(t, "a{b};", raw{"a", "b"})
}

func TestP502AtRules(t *testing.T) {
	b := raw{"b", "c"}
	// With a semicolon, a block, or both.
	wantRules(t, "@x;b{c}", b)
	wantRules(t, "@x y z; b{c}", b)
	wantRules(t, "@x{}b{c}", b)
	wantRules(t, "@x y {a{d}} b{c}", b)
	wantRules(t, "@x;y{}b{c}", raw{"y", ""}, b)
	wantRules(t, "@x{};b{c}", raw{";b", "c"})
	wantRules(t, "@x{y;z};b{c}", raw{";b", "c"})
	wantRules(t, "@x;{}b{c}", raw{"", ""}, b)
	wantRules(t, "@x a{}")
	wantRules(t, "@x a{}b{c}", b)
	// Things ahead of these hold semicolons and opening tokens of their own.
	wantRules(t, "@x (;{}) y; b{c}", b)
	wantRules(t, "@x f(;{}) y; b{c}", b)
	wantRules(t, "@x [;{}] y{;} b{c}", b)
	wantRules(t, "@x ({)};) y; b{c}", b)
	wantRules(t, "@x(;)b{c}")
	wantRules(t, "@x(;)b{c}b{c}", b)
	// Other closing tokens, and other at-tokens, are things like others.
	wantRules(t, "@x } ) ] y; b{c}", b)
	wantRules(t, "@x}b{c}")
	wantRules(t, "@x}b{c}b{c}", b)
	wantRules(t, "@x @y; b{c}", b)
	wantRules(t, "@x @y{z} b{c}", b)
	// One behind the other, and behind rules.
	wantRules(t, "@x;@y;@z{}@w;b{c}", b)
	wantRules(t, "b{c}@x;b{c}@y{a{}}b{c}@z", b, b, b)
	wantRules(t, "b{c} @x ; b{c} @y {a{}} b{c} @z;", b, b, b)
}

func TestP502AtRulesNotClosed(t *testing.T) {
	wantRules(t, "@x")
	wantRules(t, "@x ")
	wantRules(t, "@x;")
	wantRules(t, "@x; ")
	wantRules(t, "@x{}")
	wantRules(t, "@x y")
	wantRules(t, "@x{")
	wantRules(t, "@x{b{c}")
	wantRules(t, "@x{(}b{c}")
	wantRules(t, "@x(;b{c}")
	wantRules(t, "@x f(;b{c}")
	wantRules(t, "@x [;b{c}")
	wantRules(t, "a{b}@x", raw{"a", "b"})
	wantRules(t, "a{b}@x{c{d}", raw{"a", "b"})
}

// Tokens stand in the answer as they came in, of kinds that no sheet has too.
func TestP502TokensAsTheyStand(t *testing.T) {
	odd := []api.Token{{Kind: -1, Text: "x", N: math.MinInt, Whole: true, C: -7}, {Kind: 0}, {Kind: 99, N: math.MaxInt}, {Kind: api.TWhite, Text: "y"}}
	open, end := api.Token{Kind: api.TOpen, Text: "z"}, api.Token{Kind: api.TClose, N: 3}
	l := slices.Concat(odd, []api.Token{open}, odd, []api.Token{end})
	got := Parse(l)
	if len(got) != 1 || !slices.Equal(got[0].Prelude, odd) || !slices.Equal(got[0].Block, odd) {
		t.Errorf("P502: Parse(%+v): %+v", l, got)
	}
}

func TestP502Long(t *testing.T) {
	const n = 100_000
	if got := len(Parse(tokensOf(strings.Repeat("a b{c:d}@x y;@z{(})}", n)))); got != n {
		t.Errorf("P502: %d rules of %d", got, n)
	}
	l := deep(n)
	got := Parse(l)
	if len(got) != 1 || len(got[0].Prelude) != 0 || !slices.Equal(got[0].Block, l[1:len(l)-1]) {
		t.Error("P502: a deep block is told wrong")
	}
	for _, ahead := range []string{"@x", "@x;", "@x a", "a", "a("} {
		rules := 0
		if ahead == "@x;" || ahead == "a" {
			rules = 1
		}
		if got := Parse(append(tokensOf(ahead), l...)); len(got) != rules {
			t.Errorf("P502: %d rules of a deep thing behind %q, want %d", len(got), ahead, rules)
		}
	}
	for _, s := range []string{"{", "(", "[", "f(", "a{", "@x{", "@x(", "@", "}", ";"} {
		Parse(tokensOf(strings.Repeat(s, n)))
	}
}

// spoil writes over all that a list has, its spare room too.
func spoil(l []api.Token) {
	l = l[:cap(l)]
	for i := range l {
		l[i] = api.Token{Kind: -5, Text: "spoilt"}
	}
}

func TestP503(t *testing.T) {
	for _, s := range []string{"", "a", "a{b}", "a{}b{", "{}{}", "a b{c d}e f{g h} ", "@x;a{b}@y{z}c{d", "({[", "a{(}b{"} {
		l := tokensOf(s + "{i}j{k}")
		size := len(tokensOf(s))
		whole := slices.Clone(l[:cap(l)])
		handed := l[:size]
		first, again := Parse(handed), Parse(handed)
		for i := -1; i <= size+1; i++ {
			if Skip(handed, i) != Skip(slices.Clip(handed), i) {
				t.Errorf("P503: Skip(%q, %d) looks at spare room", s, i)
			}
		}
		if !slices.Equal(l[:cap(l)], whole) {
			t.Errorf("P503: %q is changed", s)
		}
		if len(first) != len(again) || cap(first) > 0 && cap(again) > 0 && &first[:1][0] == &again[:1][0] {
			t.Errorf("P503: %q: two calls' rules share memory", s)
		}
		wantOwn(t, s, l, first, again)
	}
}

// wantOwn asks that each list of the answers is of its own: what is written into one is seen in no other.
func wantOwn(t *testing.T, s string, l []api.Token, answers ...[]api.Raw) {
	t.Helper()
	lists := [][]api.Token{l}
	for _, rules := range answers {
		for _, one := range rules {
			lists = append(lists, one.Prelude, one.Block)
		}
	}
	for i := range lists {
		var others [][]api.Token
		for j := range lists {
			if j != i {
				others = append(others, lists[j][:cap(lists[j])], slices.Clone(lists[j][:cap(lists[j])]))
			}
		}
		kept := slices.Clone(lists[i][:cap(lists[i])])
		spoil(lists[i])
		for j := 0; j < len(others); j += 2 {
			if !slices.Equal(others[j], others[j+1]) {
				t.Errorf("P503: %q: lists share memory", s)
			}
		}
		copy(lists[i][:cap(lists[i])], kept)
	}
}

func TestThingsCanBeLeft(t *testing.T) {
	l := tokensOf("a(b)c{d}e")
	var seen []int
	for at := range things(l, 1) {
		seen = append(seen, at)
		if l[at].Kind == api.TOpen {
			break
		}
	}
	if !slices.Equal(seen, []int{1, 2, 3, 4}) {
		t.Errorf("things up to the block: %v", seen)
	}
}
