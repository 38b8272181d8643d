package decl

import (
	"math"
	"slices"
	"strings"
	"testing"
	"unsafe"

	"tapestrier/api"
	"tapestrier/text"
	"tapestrier/tok"
)

// want is a declaration by its name and the text of its value.
type want struct {
	name, value string
	important   bool
}

func tokensOf(s string) []api.Token { return tok.Tokens(text.Prepare([]byte(s))) }

// plain is a declaration that is not important, and urgent is one that is.
func plain(name, value string) want  { return want{name, value, false} }
func urgent(name, value string) want { return want{name, value, true} }

// wantDecls asks for the declarations of the block s.
func wantDecls(t *testing.T, s string, decls ...want) {
	t.Helper()
	got := Parse(tokensOf(s))
	same := slices.EqualFunc(got, decls, func(a api.Decl, b want) bool {
		return a.Name == b.name && a.Important == b.important && slices.Equal(a.Value, tokensOf(b.value))
	})
	if !same {
		t.Errorf("P601: Parse(%q):\n%+v, want\n%+v", s, got, decls)
	}
}

func TestP601None(t *testing.T) {
	for _, s := range []string{"", " ", ";", ";;;", " ; ;\n;\t", " /**/ /**/ ; /**/ /**/ "} {
		wantDecls(t, s)
	}
	if got := Parse([]api.Token{}); len(got) != 0 {
		t.Errorf("P601: Parse of an empty list: %+v", got)
	}
}

func TestP601Example(t *testing.T) {
	wantDecls(t, "Color : red !important", urgent("color", "red"))
}

func TestP601White(t *testing.T) {
	for _, ahead := range []string{"", " ", "\n\t ", "/**/", " /**/ ", " /**/ /**/ /**/ "} {
		for _, s := range []string{"_a:b", "a_:b", "a:_b", "a:b_", "_a_:_b_", "_a_:_b_;_", "_;_a_:_b_;_"} {
			wantDecls(t, strings.ReplaceAll(s, "_", ahead), plain("a", "b"))
		}
		// What stands between stays, each white token of it.
		wantDecls(t, "a: b"+ahead+"(c)"+ahead+" d ", plain("a", "b"+ahead+"(c)"+ahead+" d"))
	}
}

func TestP601EmptyValue(t *testing.T) {
	for _, s := range []string{"a:", "a :", "a: ", "a : ", "a:;", "a:/**/ /**/ ", " a : ; "} {
		wantDecls(t, s, plain("a", ""))
	}
	wantDecls(t, "a:;b:c", plain("a", ""), plain("b", "c"))
	wantDecls(t, "a:;b:", plain("a", ""), plain("b", ""))
}

func TestP601Name(t *testing.T) {
	wantDecls(t, "COLOR:b", plain("color", "b"))
	wantDecls(t, "cOlOr:b", plain("color", "b"))
	wantDecls(t, "Z-Index:b", plain("z-index", "b"))
	wantDecls(t, "--A_9:b", plain("--a_9", "b"))
	wantDecls(t, "\\41 x:b", plain("ax", "b"))
	// Only A to Z have small letters.
	wantDecls(t, "\u00c4\u03a3\u212a:b", plain("\u00c4\u03a3\u212a", "b"))
	wantDecls(t, "a:B C(D) #E", plain("a", "B C(D) #E"))
	for _, one := range []struct{ name, lower string }{{"", ""}, {"A B", "a b"}, {"@[`{", "@[`{"}, {"\xffA\x00", "\xffa\x00"}} {
		got := Parse([]api.Token{{Kind: api.TIdent, Text: one.name}, {Kind: api.TColon}})
		if len(got) != 1 || got[0].Name != one.lower {
			t.Errorf("P601: the name %q: %+v, want %q", one.name, got, one.lower)
		}
	}
}

func TestP601ThingsInTheValue(t *testing.T) {
	f := plain("e", "f")
	for _, value := range []string{
		"(b;c) d", "f(b;c) d", "[b;c] d", "{b;c} d",
		"(;)", "f(;)", "[;]", "{;}", "{;}{;}", "([{f(;)}])", "{)];}", "(}];)", "[)};]", "f(};)",
		"b:c", ":", "::", "b : c : d", "{b:c}", "(:)",
		"@x", "b @x c", "@x{y}", "@x{y;z}w", "(@x;)", "{@x{};}",
		"}", ")", "]", "b}c:d", "b)c]d",
		"{a:b} c:d", "1 2% 3em #x \"y;\" 'z:' .,",
	} {
		wantDecls(t, "a:"+value, plain("a", value))
		wantDecls(t, " a : "+value+" ; e : f ", plain("a", value), f)
		wantDecls(t, "e:f;a:"+value+";", f, plain("a", value))
	}
	wantDecls(t, "a:\"b\nc;e:f", plain("a", "\"b\nc"), f)
}

func TestP601NotClosed(t *testing.T) {
	for _, value := range []string{"(", "f(", "[", "{", "(b;c:d", "f(b;c:d;", "[b;@x;c:d", "{b;c:d", "(};c:d", "{(};c:d", "[{};c", "b(;"} {
		wantDecls(t, "a:"+value, plain("a", value))
		wantDecls(t, "a: "+value+" ", plain("a", value))
		wantDecls(t, "e:f;a:"+value, plain("e", "f"), plain("a", value))
	}
}

func TestP601Several(t *testing.T) {
	wantDecls(t, "a:b;c:d", plain("a", "b"), plain("c", "d"))
	wantDecls(t, "a:b;c:d;e:f;", plain("a", "b"), plain("c", "d"), plain("e", "f"))
	wantDecls(t, " a : b ;; ; c : d ", plain("a", "b"), plain("c", "d"))
	wantDecls(t, "a:b;a:b;A:c", plain("a", "b"), plain("a", "b"), plain("a", "c"))
	wantDecls(t, "a:b !important;c:d;e:f !important", urgent("a", "b"), plain("c", "d"), urgent("e", "f"))
	// What no semicolon parts is one.
	wantDecls(t, "a:b\nc:d", plain("a", "b\nc:d"))
	wantDecls(t, "a:{b}c:d", plain("a", "{b}c:d"))
}

func TestP601NoDeclaration(t *testing.T) {
	for _, s := range []string{
		// No name at the beginning.
		"1:2", ":x", ": x", "#a:b", "\"a\":b", "2%:b", "3em:b", ".a:b", "*a:b", "!important", ",a:b", "f(a):b", "(a):b", "[a]:b", "{a:b}", "{a:b} c:d", "{a;b}", "}a:b", ")a:b", "]", "\"\n:b",
		// No colon behind it.
		"a", "A B", "a !important", "a b c",
		// Something else ahead of the colon.
		"a b:c", "a!:c", "a 1:c", "a@x:c", "a{}:c", "a(b) :c", "a{b:c}", "a{b;c}:d", "a,:c", "a=:c", "a\"\":c", "a):b", "a}:b", "a[:]", "a #b:c", "a [b;c]:d",
	} {
		wantDecls(t, s)
		wantDecls(t, s+" ; ")
		wantDecls(t, "e:f;"+s, plain("e", "f"))
		wantDecls(t, s+";e:f", plain("e", "f"))
		wantDecls(t, "g:h; "+s+" ; e:f", plain("g", "h"), plain("e", "f"))
	}
	// What is not closed holds all that is behind it.
	for _, s := range []string{"(", "f(a:b", "f(;a:b", "(;a:b", "[;a:b", "{;a:b", "a{;c:d", "a(b", "a [;]{;c:d"} {
		wantDecls(t, s)
		wantDecls(t, s+";c:d")
		wantDecls(t, "e:f;"+s, plain("e", "f"))
	}
}

func TestP601Important(t *testing.T) {
	const word = "important"
	for mask := range 1 << len(word) {
		spelt := []byte(word)
		for i := range spelt {
			if mask>>i&1 == 1 {
				spelt[i] -= 'a' - 'A'
			}
		}
		wantDecls(t, "a:b!"+string(spelt), urgent("a", "b"))
	}
	for _, white := range []string{"", " ", "\n\t", "/**/", " /**/ /**/ "} {
		for _, s := range []string{"a:b_!important", "a:b!_important", "a:b!important_", "a:b_!_important_", "a:b_!_important_;_", "a:_b !_important"} {
			wantDecls(t, strings.ReplaceAll(s, "_", white), urgent("a", "b"))
		}
		// As the whole value.
		for _, s := range []string{"a:!important", "a:_!important", "a:!_important", "a:!important_", "a_:_!_important_;"} {
			wantDecls(t, strings.ReplaceAll(s, "_", white), urgent("a", ""))
		}
		// Twice in a row: one of them is taken off.
		wantDecls(t, strings.ReplaceAll("a:b !important_!_important_", "_", white), urgent("a", "b !important"))
	}
	wantDecls(t, "a:!important!important", urgent("a", "!important"))
	wantDecls(t, "a:!!important", urgent("a", "!"))
	wantDecls(t, "a: ! ! important", urgent("a", "!"))
	wantDecls(t, "a:(b;!important) c !important;d:e", urgent("a", "(b;!important) c"), plain("d", "e"))
	wantDecls(t, "a:{b}!important", urgent("a", "{b}"))
	wantDecls(t, "a:}!important", urgent("a", "}"))
	wantDecls(t, "a:b !\\69mportant", urgent("a", "b"))
	wantDecls(t, "important:!important", urgent("important", ""))
}

func TestP601NotImportant(t *testing.T) {
	for _, value := range []string{
		// With something behind it.
		"b !important c", "!important c", "b !important!", "b !important !", "b !important,", "b !important()", "b !important{}", "b !important}", "b !important important", "b !important ! x",
		// Without the sign, or with another thing in its place.
		"important", "b important", "b #important", "b ?important", "b .important", "b \"!\"important", "b,important", "b:important", "b !x important", "b ! . important", "b !() important",
		// Without the word, or with another thing in its place.
		"!", "b !", "b ! !", "b !x", "b !importan", "b !importants", "b !\u0130mportant", "b !important-", "b !\"important\"", "b !#important", "b !@important", "b !important(", "b !important()", "b !imp ortant", "b important!", "b !1important",
		// Within a thing.
		"(b !important)", "f(b !important)", "[b !important]", "{b !important}", "b(!)important", "b !(important)", "b {!}important",
	} {
		wantDecls(t, "a:"+value, plain("a", value))
		wantDecls(t, "a : "+value+" ", plain("a", value))
	}
	wantDecls(t, "a:b !;important", plain("a", "b !"))
	wantDecls(t, "a:b !;c:important", plain("a", "b !"), plain("c", "important"))
	wantDecls(t, "a:b;!important", plain("a", "b"))
	wantDecls(t, "a ! important:b")
}

// The mark is the last two tokens, wherever they stand: also within things that are not closed.
func TestP601ImportantWithinWhatIsNotClosed(t *testing.T) {
	wantDecls(t, "a:(!important", urgent("a", "("))
	wantDecls(t, "a:(b !important", urgent("a", "(b"))
	wantDecls(t, "a:f(b;c ! important ", urgent("a", "f(b;c"))
	wantDecls(t, "a:[{b}!important", urgent("a", "[{b}"))
	wantDecls(t, "a:{b:c !important", urgent("a", "{b:c"))
	wantDecls(t, "a:!(important", plain("a", "!(important"))
}

// Only a TDelim's code point makes it a `!`, and only a TIdent's text makes the word.
func TestP601ImportantByKind(t *testing.T) {
	head := tokensOf("a:b")
	sign, word := api.Token{Kind: api.TDelim, C: 33}, api.Token{Kind: api.TIdent, Text: "important"}
	ask := func(sign, word api.Token, important bool) {
		t.Helper()
		left := 3
		if important {
			left = 1
		}
		got := Parse(slices.Concat(head, []api.Token{sign, word}))
		if len(got) != 1 || got[0].Important != important || len(got[0].Value) != left {
			t.Errorf("P601: %+v behind %+v: %+v, want Important %v", word, sign, got, important)
		}
	}
	for kind := -2; kind <= 25; kind++ {
		if kind == api.TWhite || kind == api.TSemi {
			continue
		}
		ask(api.Token{Kind: kind, Text: "!", C: 33, N: 33}, word, kind == api.TDelim)
		ask(sign, api.Token{Kind: kind, Text: "important", C: 33}, kind == api.TIdent)
	}
	for _, c := range []int{-33, 0, 32, 34, 161, 33 + 256, math.MinInt, math.MaxInt} {
		ask(api.Token{Kind: api.TDelim, C: c}, word, false)
	}
}

func TestP601AtRules(t *testing.T) {
	c := plain("c", "d")
	// With a semicolon, a block, or both.
	wantDecls(t, "@x;c:d", c)
	wantDecls(t, "@x a:b; c:d", c)
	wantDecls(t, "@x{}c:d", c)
	wantDecls(t, "@x {a:b} c:d", c)
	wantDecls(t, "@x {a:b;e:f} c:d", c)
	wantDecls(t, "@x{};c:d", c)
	wantDecls(t, "@x{} ; c:d", c)
	wantDecls(t, "@x;{}c:d")
	wantDecls(t, "@x;{};c:d", c)
	wantDecls(t, "@x a{b;c}d:e", plain("d", "e"))
	wantDecls(t, "@x:y{z}c:d", c)
	// Things ahead of these hold semicolons and opening tokens of their own.
	wantDecls(t, "@x (;{}) a:b; c:d", c)
	wantDecls(t, "@x f(;{}) a:b; c:d", c)
	wantDecls(t, "@x [;{}] a:b{;} c:d", c)
	wantDecls(t, "@x(;)a:b{e:f}c:d", c)
	wantDecls(t, "@x({)};)a:b;c:d", c)
	wantDecls(t, "@x(;)a:b")
	// Other closing tokens, and other at-tokens, are things like others.
	wantDecls(t, "@x } ) ] a:b; c:d", c)
	wantDecls(t, "@x @y a:b; c:d", c)
	wantDecls(t, "@x @y{a:b} c:d", c)
	// The at-rule's block is a thing: it ends where its own closing token stands.
	wantDecls(t, "@x{a:{b}e:(})f}c:d", c)
	// One behind the other, behind and ahead of declarations.
	wantDecls(t, "@x;@y;@z{}@w;c:d", c)
	wantDecls(t, "c:d;@x;c:d;@y{a:b}c:d;@z", c, c, c)
	wantDecls(t, "c:d; @x a:b ; c:d ; @y {a:b} c:d ; @z;", c, c, c)
	wantDecls(t, "c:d;@x{};", c)
}

func TestP601AtRulesNotClosed(t *testing.T) {
	for _, s := range []string{"@x", "@x ", "@x;", "@x; ", "@x{}", "@x y", "@x a:b", "@x{", "@x{a:b;c:d", "@x{(};c:d", "@x{(}c:d}e:f", "@x(;c:d", "@x f(;c:d", "@x [;c:d", "@x({};c:d", "@x a:b c:d", "@x}", "@x !important"} {
		wantDecls(t, s)
		wantDecls(t, " ; "+s)
		wantDecls(t, "e:f;"+s, plain("e", "f"))
	}
	// Behind no semicolon, it is no at-rule.
	wantDecls(t, "e:f @x{a:b} c:d", plain("e", "f @x{a:b} c:d"))
	wantDecls(t, "e @x:f;c:d", plain("c", "d"))
}

// Tokens stand in the answer as they came in, of kinds that no sheet has too.
func TestP601TokensAsTheyStand(t *testing.T) {
	odd := []api.Token{{Kind: -1, Text: "x", N: math.MinInt, Whole: true, C: -7}, {Kind: api.TWhite, Text: "y"}, {Kind: 0}, {Kind: 99, N: math.MaxInt}}
	white := api.Token{Kind: api.TWhite, N: 5, Text: "important"}
	l := slices.Concat([]api.Token{{Kind: api.TIdent, Text: "A", C: 33, N: 2}, white, white, {Kind: api.TColon, Text: "z"}, white}, odd, []api.Token{white})
	got := Parse(l)
	if len(got) != 1 || got[0].Name != "a" || got[0].Important || !slices.Equal(got[0].Value, odd) {
		t.Errorf("P601: Parse(%+v): %+v", l, got)
	}
	for kind := -3; kind <= 30; kind++ {
		if kind == api.TIdent {
			continue
		}
		if got := Parse([]api.Token{{Kind: kind, Text: "a"}, {Kind: api.TColon}, {Kind: api.TIdent, Text: "b"}}); len(got) != 0 {
			t.Errorf("P601: a declaration that begins with kind %d: %+v", kind, got)
		}
		if got := Parse([]api.Token{{Kind: api.TIdent, Text: "a"}, {Kind: kind, Text: ":", C: ':'}, {Kind: api.TIdent, Text: "b"}}); kind != api.TColon && len(got) != 0 {
			t.Errorf("P601: a declaration with kind %d for a colon: %+v", kind, got)
		}
	}
}

func TestP601Long(t *testing.T) {
	const n = 50_000
	if got := len(Parse(tokensOf(strings.Repeat("a:b(;)c !important;@x y;@z{(})}", n)))); got != n {
		t.Errorf("P601: %d declarations of %d", got, n)
	}
	for _, opening := range []int{api.TOpen, api.TParen, api.TFunc, api.TSquare} {
		deep := slices.Repeat([]api.Token{{Kind: opening}}, n)
		got := Parse(slices.Concat(tokensOf("a:"), deep, tokensOf(";c:d!important")))
		if len(got) != 1 || len(got[0].Value) != n+4 || !got[0].Important {
			t.Errorf("P601: deep things of kind %d are told wrong", opening)
		}
	}
	for _, s := range []string{"{", "(", "[", "f(", "@x{", "@x(", "@x ", "}", ";", "a", "a ", "a:", "a:;", "! ", "a:!important", " /**/", "a /**/", ": /**/"} {
		Parse(tokensOf(strings.Repeat(s, n)))
	}
}

// spoil writes over all that a list has, its spare room too.
func spoil(l []api.Token) {
	l = l[:cap(l)]
	for i := range l {
		l[i] = api.Token{Kind: -5, Text: "spoilt"}
	}
}

func TestP602(t *testing.T) {
	for _, s := range []string{"", "a", "a:", "a:b", "a:b;", "a:!important", "a : b c !important ; d:(e;f", "a:b;c:d;e:f", "a:;b:;", "@x;a:b;@y{z}c:d", "({[", "1:2;a b:c"} {
		l := tokensOf(s + ";i:j;k:l !important;")
		size := len(tokensOf(s))
		whole := slices.Clone(l[:cap(l)])
		handed := l[:size]
		first, again, clipped := Parse(handed), Parse(handed), Parse(slices.Clone(handed))
		if !slices.Equal(l[:cap(l)], whole) {
			t.Errorf("P602: %q is changed", s)
		}
		if !slices.EqualFunc(first, again, sameDecl) || !slices.EqualFunc(first, clipped, sameDecl) {
			t.Errorf("P602: %q: %+v, %+v, %+v", s, first, again, clipped)
		}
		if cap(first) > 0 && cap(again) > 0 && &first[:1][0] == &again[:1][0] {
			t.Errorf("P602: %q: two calls' declarations share memory", s)
		}
		wantOwn(t, s, l, first, again)
	}
}

// wantOwn asks that each list of the answers is of its own: what is written into one is seen in no other.
func wantOwn(t *testing.T, s string, l []api.Token, answers ...[]api.Decl) {
	t.Helper()
	lists := [][]api.Token{l}
	for _, decls := range answers {
		for _, one := range decls {
			lists = append(lists, one.Value)
		}
	}
	for i := range lists {
		var others [][]api.Token
		for j := range lists {
			if j != i {
				others = append(others, lists[j][:cap(lists[j])], slices.Clone(lists[j][:cap(lists[j])]))
			}
		}
		kept := slices.Clone(lists[i][:cap(lists[i])])
		spoil(lists[i])
		for j := 0; j < len(others); j += 2 {
			if !slices.Equal(others[j], others[j+1]) {
				t.Errorf("P602: %q: lists share memory", s)
			}
		}
		copy(lists[i][:cap(lists[i])], kept)
	}
}

// An empty value holds on to nothing of what was handed in.
func TestP602EmptyValue(t *testing.T) {
	for _, s := range []string{"a:", "a:;", "a:!important", "a: ;b:c"} {
		for _, one := range Parse(tokensOf(s))[:1] {
			if cap(one.Value) != 0 {
				t.Errorf("P602: %q: an empty value has room for %d", s, cap(one.Value))
			}
		}
	}
}

func TestP602Name(t *testing.T) {
	l := tokensOf("name:b")
	got := Parse(l)
	if len(got) != 1 || unsafe.StringData(got[0].Name) == unsafe.StringData(l[0].Text) {
		t.Errorf("P602: a name shares memory with its token: %+v", got)
	}
}

func TestThingsCanBeLeft(t *testing.T) {
	l := tokensOf("a(b;)c;d")
	var seen []int
	for at := range things(l, 0) {
		seen = append(seen, at)
		if l[at].Kind == api.TSemi {
			break
		}
	}
	if !slices.Equal(seen, []int{0, 4, 5}) {
		t.Errorf("things up to the semicolon: %v", seen)
	}
}
