package tok

import (
	"math"
	"slices"
	"strings"
	"testing"

	"tapestrier/api"
	"tapestrier/text"
)

// Short forms of the tokens that the tests ask for.
var white, bad = of(api.TWhite), of(api.TBad)

func of(kind int) api.Token { return api.Token{Kind: kind} }

func ident(s string) api.Token { return api.Token{Kind: api.TIdent, Text: s} }

func hash(s string) api.Token { return api.Token{Kind: api.THash, Text: s} }

func at(s string) api.Token { return api.Token{Kind: api.TAt, Text: s} }

func fun(s string) api.Token { return api.Token{Kind: api.TFunc, Text: s} }

func str(s string) api.Token { return api.Token{Kind: api.TString, Text: s} }

func delim(c int) api.Token { return api.Token{Kind: api.TDelim, C: c} }

func whole(n int) api.Token { return api.Token{Kind: api.TNumber, N: n, Whole: true} }

func pointed(n int) api.Token { return api.Token{Kind: api.TNumber, N: n} }

func percent(n int) api.Token { return api.Token{Kind: api.TPercent, N: n} }

func dim(n int, unit string) api.Token { return api.Token{Kind: api.TDim, N: n, Text: unit} }

// want asks for the tokens of the sheet s.
func want(t *testing.T, s string, tokens ...api.Token) {
	t.Helper()
	wantPoints(t, text.Prepare([]byte(s)), tokens...)
}

// wantPoints asks for the tokens of the code points l.
func wantPoints(t *testing.T, l []int, tokens ...api.Token) {
	t.Helper()
	if got := Tokens(l); !slices.Equal(got, tokens) {
		t.Errorf("P401: Tokens(%q):\n%+v, want\n%+v", text.Bytes(l), got, tokens)
	}
}

func TestP401None(t *testing.T) {
	want(t, "")
	wantPoints(t, nil)
	wantPoints(t, []int{})
}

func TestP401Example(t *testing.T) {
	want(t, "a:1.5em", ident("a"), of(api.TColon), dim(1500, "em"))
}

func TestP401Comments(t *testing.T) {
	a, b := ident("a"), ident("b")
	want(t, "/**/")
	want(t, "/*")
	want(t, "/* a")
	want(t, "/* a *")
	want(t, "/*/")
	want(t, "/*/ a")
	want(t, "/*/*/a", a)
	want(t, "/***/a", a)
	want(t, "/****/a", a)
	want(t, "/** */a", a)
	want(t, "/* /* */a", a)
	want(t, "/* */ */a", white, delim('*'), delim('/'), a)
	want(t, "/*\n\\*/a", a)
	want(t, "/*\"*/a", a)
	want(t, "/* x */a", a)
	want(t, "a/**/b", a, b)
	want(t, "a/*", a)
	want(t, "/**//**/a/**//*", a)
	want(t, " /**/ ", white, white)
	want(t, "\n/**//**/\t", white, white)
	want(t, "/**/ /**/", white)
	want(t, "1/**/em", whole(1000), ident("em"))
	want(t, "1/**/%", whole(1000), delim('%'))
	want(t, "1/**/.5", whole(1000), pointed(500))
	want(t, "-/**/a", delim('-'), a)
	want(t, "+/**/1", delim('+'), whole(1000))
	want(t, "#/**/a", delim('#'), a)
	want(t, "@/**/a", delim('@'), a)
	want(t, "a/**/(", a, of(api.TParen))
	want(t, "\"/*a*/\"", str("/*a*/"))
	want(t, "\"/*\"a*/", str("/*"), a, delim('*'), delim('/'))
	want(t, "\\/*a", ident("/"), delim('*'), a)
	want(t, "\\41/**/ a", ident("A"), white, a)
	want(t, "/", delim('/'))
	want(t, "/a*", delim('/'), a, delim('*'))
	want(t, "/ *", delim('/'), white, delim('*'))
	want(t, "//**/", delim('/'))
	want(t, "*/", delim('*'), delim('/'))
	want(t, "*/**/", delim('*'))
}

func TestP401White(t *testing.T) {
	for _, s := range []string{" ", "\t", "\n", "\r", "\f", "\r\n", "  ", " \t\n\r\f ", "\n\n\n"} {
		want(t, s, white)
		want(t, s+"a", white, ident("a"))
		want(t, "a"+s, ident("a"), white)
		want(t, "a"+s+"a"+s, ident("a"), white, ident("a"), white)
	}
	// Not out of Prepare, a 13 and a 12 are code points like others; so is what is white elsewhere.
	wantPoints(t, []int{13, 12, 11, 0}, delim(13), delim(12), delim(11), delim(0))
	want(t, "\u00a0\u2003\u0085", ident("\u00a0\u2003\u0085"))
}

// wantStrings asks for the tokens of s, with each of the signs of a string in the stead of its `q`.
func wantStrings(t *testing.T, s string, tokens ...api.Token) {
	t.Helper()
	for _, sign := range []string{`"`, `'`} {
		turned := slices.Clone(tokens)
		for i := range turned {
			turned[i].Text = strings.ReplaceAll(turned[i].Text, "q", sign)
		}
		want(t, strings.ReplaceAll(s, "q", sign), turned...)
	}
}

func TestP401Strings(t *testing.T) {
	wantStrings(t, "qq", str(""))
	wantStrings(t, "qaq", str("a"))
	wantStrings(t, "qa bqc", str("a b"), ident("c"))
	wantStrings(t, "qaqqbq", str("a"), str("b"))
	wantStrings(t, "q(;{é#1\tq", str("(;{é#1\t"))
	want(t, `"a'b" 'c"d'`, str("a'b"), white, str(`c"d`))
	want(t, `"'" '"'`, str("'"), white, str(`"`))
	// The end ends a string.
	wantStrings(t, "q", str(""))
	wantStrings(t, "qa", str("a"))
	wantStrings(t, "qaqqb", str("a"), str("b"))
	want(t, `"a'`, str("a'"))
	want(t, `'a"`, str(`a"`))
}

func TestP401StringsBrokenOff(t *testing.T) {
	wantStrings(t, "q\n", bad, white)
	wantStrings(t, "qa\nb", bad, white, ident("b"))
	wantStrings(t, "qa\r\n bq", bad, white, ident("b"), str(""))
	wantStrings(t, "qa\n\nqb", bad, white, str("b"))
	wantStrings(t, "qa\\\nb\nc", bad, white, ident("c"))
	wantStrings(t, "qa\\\n\n", bad, white)
	wantStrings(t, "q\n/**/q\n", bad, white, bad, white)
}

func TestP401StringsEscapes(t *testing.T) {
	wantStrings(t, "qa\\\nbq", str("ab"))
	wantStrings(t, "q\\\n\\\nq", str(""))
	wantStrings(t, "q\\\r\nbq", str("b"))
	wantStrings(t, "qa\\\n", str("a"))
	wantStrings(t, "qa\\", str("a"))
	wantStrings(t, "q\\", str(""))
	wantStrings(t, "q\\\\", str("\\"))
	wantStrings(t, "q\\\\q", str("\\"))
	wantStrings(t, "qa\\qbq", str("aqb"))
	wantStrings(t, "q\\q", str("q"))
	wantStrings(t, "q\\\\\\q", str("\\q"))
	want(t, `"\'" '\"'`, str("'"), white, str(`"`))
	wantStrings(t, "q\\zq", str("z"))
	wantStrings(t, "q\\ aq", str(" a"))
	wantStrings(t, "q\\éq", str("é"))
	// One White behind digits belongs to them, a 10 too.
	wantStrings(t, "q\\41q", str("A"))
	wantStrings(t, "q\\41 bq", str("Ab"))
	wantStrings(t, "q\\41  bq", str("A b"))
	wantStrings(t, "q\\41\nbq", str("Ab"))
	wantStrings(t, "q\\41\n\nb", bad, white, ident("b"))
	wantStrings(t, "q\\41\\\nbq", str("Ab"))
	wantStrings(t, "q\\41", str("A"))
	wantStrings(t, "q\\41 ", str("A"))
	wantStrings(t, "q\\000041bq", str("Ab"))
	wantStrings(t, "q\\0000410q", str("A0"))
	wantStrings(t, "q\\22 \\27 q", str("\"'"))
	wantStrings(t, "q\\a q", str("\n"))
	wantStrings(t, "q\\0\\0 \\d800\\dfff\\110000\\ffffffq", str(strings.Repeat("\uFFFD", 6)))
	wantStrings(t, "q\\d7ff\\e000\\10ffffq", str("\ud7ff\ue000\U0010ffff"))
}

// marks asks for the tokens of a sign with a name behind it.
func marks(t *testing.T, sign string, kind int) {
	t.Helper()
	mark := func(s string) api.Token { return api.Token{Kind: kind, Text: s} }
	own := delim(int(sign[0]))
	want(t, sign+"a", mark("a"))
	want(t, sign+"A1-_é.b", mark("A1-_é"), delim('.'), ident("b"))
	want(t, sign+"_", mark("_"))
	want(t, sign+"é", mark("é"))
	want(t, sign+"-a", mark("-a"))
	want(t, sign+"--", mark("--"))
	want(t, sign+"--a", mark("--a"))
	want(t, sign+"-\\41", mark("-A"))
	want(t, sign+"\\41 b", mark("Ab"))
	want(t, sign+"\\{", mark("{"))
	want(t, sign+"a(", mark("a"), of(api.TParen))
	want(t, sign+"a"+sign+"b", mark("a"), mark("b"))
	want(t, sign+sign+"a", own, mark("a"))
	want(t, sign, own)
	want(t, sign+" a", own, white, ident("a"))
	want(t, sign+"!", own, delim('!'))
	want(t, sign+"\\", own, delim('\\'))
	want(t, sign+"\\\na", own, delim('\\'), white, ident("a"))
	want(t, sign+"+1", own, whole(1000))
	want(t, sign+".5", own, pointed(500))
	want(t, sign+"\"a\"", own, str("a"))
	wantPoints(t, []int{int(sign[0]), -1}, mark("\uFFFD"))
}

func TestP401Hash(t *testing.T) {
	marks(t, "#", api.THash)
	// A hash's name need not begin as names do.
	want(t, "#1", hash("1"))
	want(t, "#1.5", hash("1"), pointed(500))
	want(t, "#-", hash("-"))
	want(t, "#-1", hash("-1"))
	want(t, "#-\\\n", hash("-"), delim('\\'), white)
	want(t, "#00ff7F;", hash("00ff7F"), of(api.TSemi))
}

func TestP401At(t *testing.T) {
	marks(t, "@", api.TAt)
	want(t, "@media print", at("media"), white, ident("print"))
	want(t, "@1", delim('@'), whole(1000))
	want(t, "@1a", delim('@'), dim(1000, "a"))
	want(t, "@-", delim('@'), delim('-'))
	want(t, "@-1", delim('@'), whole(-1000))
	want(t, "@-\\\n", delim('@'), delim('-'), delim('\\'), white)
}

func TestP401Numbers(t *testing.T) {
	for _, c := range []struct {
		s string
		n int
		w bool
	}{
		{"0", 0, true}, {"1", 1000, true}, {"007", 7000, true}, {"12", 12000, true}, {"1234567890", 1234567890000, true},
		{"0.0", 0, false}, {"1.5", 1500, false}, {"1.0", 1000, false}, {".5", 500, false}, {".0005", 0, false}, {"2.3456", 2345, false}, {"00.250", 250, false},
		{"2147483.647", api.MaxNum, false}, {"2147483.646", api.MaxNum - 1, false}, {"2147483", 2147483000, true}, {"2147484", api.MaxNum, true},
		{"99999999999999999999999999999999", api.MaxNum, true}, {"99999999999999999999999999999.9", api.MaxNum, false},
	} {
		n := min(c.n, api.MaxNum)
		want(t, c.s, api.Token{Kind: api.TNumber, N: n, Whole: c.w})
		want(t, "+"+c.s, api.Token{Kind: api.TNumber, N: n, Whole: c.w})
		want(t, "-"+c.s, api.Token{Kind: api.TNumber, N: -n, Whole: c.w})
		want(t, c.s+"%", percent(n))
		want(t, "-"+c.s+"%", percent(-n))
		want(t, "+"+c.s+"px", dim(n, "px"))
		want(t, "-"+c.s+"px", dim(-n, "px"))
		want(t, c.s+" ", api.Token{Kind: api.TNumber, N: n, Whole: c.w}, white)
	}
}

func TestP401NumbersPoints(t *testing.T) {
	one, point := whole(1000), delim('.')
	want(t, "1.", one, point)
	want(t, "1..5", one, point, pointed(500))
	want(t, "1.a", one, point, ident("a"))
	want(t, "1.%", one, point, delim('%'))
	want(t, "1.-5", one, point, whole(-5000))
	want(t, "1.5.5", pointed(1500), pointed(500))
	want(t, "1.5.", pointed(1500), point)
	want(t, ".", point)
	want(t, ".a", point, ident("a"))
	want(t, "..5", point, pointed(500))
	want(t, "+.", delim('+'), point)
	want(t, "-.", delim('-'), point)
	want(t, "-.a", delim('-'), point, ident("a"))
	want(t, "+.5-.5", pointed(500), pointed(-500))
}

func TestP401NumbersSigns(t *testing.T) {
	want(t, "+", delim('+'))
	want(t, "-", delim('-'))
	want(t, "++1", delim('+'), whole(1000))
	want(t, "-+1", delim('-'), whole(1000))
	want(t, "+-1", delim('+'), whole(-1000))
	want(t, "--1", ident("--1"))
	want(t, "+ 1", delim('+'), white, whole(1000))
	want(t, "+a", delim('+'), ident("a"))
	want(t, "1+2-3", whole(1000), whole(2000), whole(-3000))
	want(t, "1-", whole(1000), delim('-'))
	want(t, "1 -2", whole(1000), white, whole(-2000))
	want(t, "a1", ident("a1"))
	want(t, "a-1", ident("a-1"))
	want(t, "a+1", ident("a"), whole(1000))
	want(t, "a.5", ident("a"), pointed(500))
	want(t, "٣", ident("٣")) // a digit, but none of 0 to 9
}

func TestP401NumbersWithNames(t *testing.T) {
	want(t, "1em", dim(1000, "em"))
	want(t, "1EM", dim(1000, "EM"))
	want(t, "1_", dim(1000, "_"))
	want(t, "1é", dim(1000, "é"))
	want(t, "1e4", dim(1000, "e4"))
	want(t, "1e+4", dim(1000, "e"), whole(4000))
	want(t, "1e-4", dim(1000, "e-4"))
	want(t, "1.5e3.5", dim(1500, "e3"), pointed(500))
	want(t, "1-a", dim(1000, "-a"))
	want(t, "1--", dim(1000, "--"))
	want(t, "1--2", dim(1000, "--2"))
	want(t, "1-\\41", dim(1000, "-A"))
	want(t, "1\\65 m", dim(1000, "em"))
	want(t, "1\\g", dim(1000, "g"))
	want(t, "1\\", whole(1000), delim('\\'))
	want(t, "1\\\na", whole(1000), delim('\\'), white, ident("a"))
	want(t, "1-\\\na", whole(1000), delim('-'), delim('\\'), white, ident("a"))
	want(t, "1a%", dim(1000, "a"), delim('%'))
	want(t, "1%a", percent(1000), ident("a"))
	want(t, "1%%", percent(1000), delim('%'))
	want(t, "1 %", whole(1000), white, delim('%'))
	want(t, "1f(", dim(1000, "f"), of(api.TParen))
	want(t, "1(", whole(1000), of(api.TParen))
	want(t, "1#a", whole(1000), hash("a"))
	wantPoints(t, []int{'1', math.MinInt}, dim(1000, "\uFFFD"))
}

func TestP401Names(t *testing.T) {
	for _, s := range []string{"a", "z", "A", "Z", "_", "-a", "-_", "--", "---", "--1", "-é", "a1", "a-", "a--b", "aBc_9-0", "é", "\u0080", "\U0010ffff", "url", "é-1_A"} {
		want(t, s, ident(s))
		want(t, s+" ", ident(s), white)
		want(t, s+"(", fun(s))
		want(t, s+" (", ident(s), white, of(api.TParen))
		want(t, s+"!", ident(s), delim('!'))
	}
	want(t, "-", delim('-'))
	want(t, "-(", delim('-'), of(api.TParen))
	want(t, "- a", delim('-'), white, ident("a"))
	want(t, "-->", ident("--"), delim('>'))
	want(t, "<!--", delim('<'), delim('!'), ident("--"))
	want(t, "f(g(x))", fun("f"), fun("g"), ident("x"), of(api.TEnd), of(api.TEnd))
	want(t, "url(a.b)", fun("url"), ident("a"), delim('.'), ident("b"), of(api.TEnd))
	want(t, "f((", fun("f"), of(api.TParen))
	want(t, "\\66 (", fun("f"))
	want(t, "f\\(", ident("f("))
}

func TestP401Escapes(t *testing.T) {
	for _, s := range []string{"\\41", "\\041", "\\0041", "\\00041", "\\000041"} {
		want(t, s, ident("A"))
		want(t, s+" ", ident("A"))
		want(t, s+"\t", ident("A"))
		want(t, s+"\n", ident("A"))
		want(t, s+"\r\n", ident("A"))
		want(t, s+" b", ident("Ab"))
		want(t, s+"  b", ident("A"), white, ident("b"))
		want(t, s+"\n\nb", ident("A"), white, ident("b"))
		want(t, s+"g", ident("Ag"))
		want(t, s+"\\42", ident("AB"))
		want(t, "x"+s+" -", ident("xA-"))
	}
	want(t, "\\9", ident("\t"))
	want(t, "\\aB", ident("«"))
	want(t, "\\0000411", ident("A1"))
	want(t, "\\00004142", ident("A42"))
	want(t, "\\000041 1", ident("A1"))
	want(t, "\\fF", ident("ÿ"))
	want(t, "\\e9", ident("é"))
	want(t, "\\1F600", ident("\U0001F600"))
	for _, s := range []string{"\\0", "\\00", "\\000000", "\\d800", "\\D9ab", "\\dfff", "\\110000", "\\ffffff", "\\fffd"} {
		want(t, s, ident("\uFFFD"))
		want(t, s+" ", ident("\uFFFD"))
	}
	want(t, "\\0000001", ident("\uFFFD1"))
	want(t, "\\1100000", ident("\uFFFD0"))
	want(t, "\\d7ff\\e000", ident("\ud7ff\ue000"))
	want(t, "\\10ffff", ident("\U0010ffff"))
	want(t, "\\1", ident("\x01"))
}

func TestP401EscapesOfOnePoint(t *testing.T) {
	want(t, "\\g", ident("g"))
	want(t, "\\G ", ident("G"), white)
	want(t, "\\{\\}", ident("{}"))
	want(t, "\\\\", ident("\\"))
	want(t, "\\ a", ident(" a"))
	want(t, "\\\ta", ident("\ta"))
	want(t, "\\\"a\"", ident("\"a"), str(""))
	want(t, "\\éx", ident("éx"))
	want(t, "-\\g", ident("-g"))
	want(t, "-\\31", ident("-1"))
	want(t, "a\\", ident("a"), delim('\\'))
	want(t, "a\\\nb", ident("a"), delim('\\'), white, ident("b"))
	want(t, "\\", delim('\\'))
	want(t, "\\\n", delim('\\'), white)
	want(t, "\\\r\n", delim('\\'), white)
	want(t, "-\\", delim('-'), delim('\\'))
	want(t, "-\\\n", delim('-'), delim('\\'), white)
	want(t, "--\\\n", ident("--"), delim('\\'), white)
	want(t, "\\/*a*/", ident("/"), delim('*'), ident("a"), delim('*'), delim('/'))
	wantPoints(t, []int{'\\', 13, '\\', 0}, ident("\r\x00"))
}

func TestP401Signs(t *testing.T) {
	kinds := map[int]int{
		':': api.TColon, ';': api.TSemi, ',': api.TComma, '{': api.TOpen, '}': api.TClose,
		'(': api.TParen, ')': api.TEnd, '[': api.TSquare, ']': api.TBack,
	}
	for p := range 128 {
		kind, sign := kinds[p]
		switch {
		case sign:
			wantPoints(t, []int{p}, of(kind))
			wantPoints(t, []int{p, p}, of(kind), of(kind))
		case strings.ContainsRune("!#$%&*+-./<=>?@\\^`|~", rune(p)) || p == 127 || p < 32 && p != 9 && p != 10:
			wantPoints(t, []int{p}, delim(p))
			wantPoints(t, []int{p, ' '}, delimAndWhite(p)...)
		}
	}
	want(t, "a.b>c~=*|$^/", ident("a"), delim('.'), ident("b"), delim('>'), ident("c"), delim('~'), delim('='), delim('*'), delim('|'), delim('$'), delim('^'), delim('/'))
}

// delimAndWhite is what p, which is of no kind of its own, and a 32 are.
func delimAndWhite(p int) []api.Token {
	if p == '\\' {
		return []api.Token{ident(" ")}
	}
	return []api.Token{delim(p), white}
}

// Every code point from 128 on is a name, whole words of them too.
func TestP401HighPoints(t *testing.T) {
	for p := 128; p <= 1114111; p++ {
		name := "\uFFFD"
		if p < 55296 || p > 57343 {
			name = string(rune(p))
		}
		if got := Tokens([]int{p}); len(got) != 1 || got[0] != ident(name) {
			t.Fatalf("P401: Tokens of %d: %v", p, got)
		}
	}
}

func TestP401NoCodePoints(t *testing.T) {
	none := []int{-1, -2, -10, -32, math.MinInt, 55296, 56000, 57343, 1114112, 1 << 31, 1<<32 + 'a', 1<<32 + '\n', 1 << 40, math.MaxInt}
	for _, p := range none {
		f := "\uFFFD"
		wantPoints(t, []int{p}, ident(f))
		wantPoints(t, []int{'a', p, 'b'}, ident("a"+f+"b"))
		wantPoints(t, []int{'-', p}, ident("-"+f))
		wantPoints(t, []int{'1', p}, dim(1000, f))
		wantPoints(t, []int{'#', p, '@', p}, hash(f), at(f))
		wantPoints(t, []int{p, '('}, fun(f))
		wantPoints(t, []int{'"', p, '"'}, str(f))
		wantPoints(t, []int{'"', p}, str(f))
		wantPoints(t, []int{'"', '\\', p, '"'}, str(f))
		wantPoints(t, []int{'\\', p}, ident(f))
		wantPoints(t, []int{'\\', '4', '1', p}, ident("A"+f))
		wantPoints(t, []int{'/', '*', p, '*', '/', 'a'}, ident("a"))
		wantPoints(t, []int{'/', '*', p})
		wantPoints(t, []int{'/', p, '*'}, delim('/'), ident(f), delim('*'))
		wantPoints(t, []int{' ', p, ' '}, white, ident(f), white)
	}
}

func TestP401Long(t *testing.T) {
	const many = 200000
	long := strings.Repeat("a", many)
	want(t, long, ident(long))
	want(t, strings.Repeat("1", many), whole(api.MaxNum))
	want(t, "'"+long, str(long))
	want(t, "/*"+long)
	want(t, strings.Repeat(" ", many), white)
	want(t, strings.Repeat("/**/", many))
	want(t, strings.Repeat("\\41 ", many), ident(strings.Repeat("A", many)))
	want(t, strings.Repeat("'\n", many), slices.Repeat([]api.Token{bad, white}, many)...)
	want(t, strings.Repeat("(", many), slices.Repeat([]api.Token{of(api.TParen)}, many)...)
}

// The iterator can be left behind each token, and be ranged over again.
func TestP401Stopped(t *testing.T) {
	l := text.Prepare([]byte("a /**/ 1.5em 'b\n#c"))
	all := Tokens(l)
	told := tokens(l)
	for n := range len(all) {
		var got []api.Token
		for one := range told {
			got = append(got, one)
			if len(got) > n {
				break
			}
		}
		if !slices.Equal(got, all[:n+1]) {
			t.Errorf("P401: left behind %d: %v", n+1, got)
		}
	}
}

func TestP402Kinds(t *testing.T) {
	for _, c := range []struct {
		token api.Token
		want  string
	}{
		{ident("a"), "a"}, {at("media"), "@media"}, {hash("b"), "#b"}, {fun("f"), "f("}, {str("c d"), `"c d"`},
		{whole(2000), "2"}, {pointed(-1500), "-1.500"}, {percent(50000), "50%"}, {dim(1500, "em"), "1.500em"},
		{white, " "}, {delim('>'), ">"}, {delim('é'), "é"},
		{of(api.TColon), ":"}, {of(api.TSemi), ";"}, {of(api.TComma), ","}, {of(api.TOpen), "{"}, {of(api.TClose), "}"},
		{of(api.TParen), "("}, {of(api.TEnd), ")"}, {of(api.TSquare), "["}, {of(api.TBack), "]"},
	} {
		wantText(t, c.want, c.token)
		wantText(t, c.want+" "+c.want, c.token, white, c.token)
	}
}

// wantText asks for the text of the tokens, twice.
func wantText(t *testing.T, s string, tokens ...api.Token) {
	t.Helper()
	for range 2 {
		if got := Text(tokens); got != s {
			t.Errorf("P402: Text(%+v): %q, want %q", tokens, got, s)
		}
	}
}

func TestP402None(t *testing.T) {
	wantText(t, "")
	if Text([]api.Token{}) != "" || Text(nil) != "" {
		t.Error("P402: a text of no tokens")
	}
}

// What can be read is read as the same tokens again.
func TestP402ReadAgain(t *testing.T) {
	for _, s := range []string{"a:1.5em;#b{}()[],@c f(2 50%)", "a > b.c", "@media x { y: \"z\" }", "[a=\"b c\"]:not(.d)", "é{--x:-.25px}"} {
		l := Tokens(text.Prepare([]byte(s)))
		got := Text(l)
		if again := Tokens(text.Prepare([]byte(got))); !slices.Equal(again, l) {
			t.Errorf("P402: %q: %q: %v, want %v", s, got, again, l)
		}
	}
}

func TestP402AnyTokens(t *testing.T) {
	for _, kind := range []int{math.MinInt, -1, 0, 21, 99, math.MaxInt} {
		one := []api.Token{{Kind: kind, Text: "a", N: math.MaxInt, Whole: true, C: -5}}
		if Text(one) != Text(one) {
			t.Errorf("P402: two texts of kind %d", kind)
		}
	}
	for kind := range 22 {
		for _, n := range []int{math.MinInt, -1, 0, 1, math.MaxInt} {
			one := []api.Token{{Kind: kind, Text: "\xff\"\n", N: n, C: n}, bad}
			if Text(one) != Text(one) {
				t.Errorf("P402: two texts of kind %d", kind)
			}
		}
	}
}

func TestP403Unchanged(t *testing.T) {
	room := text.Prepare([]byte("a 'b' -1.5em \\41 /* c */ #d @e f(é \"g"))
	room = append(room, -1, 1<<40, 55296, 'x', ' ', '*', '/')
	for n := range len(room) + 1 {
		before := slices.Clone(room)
		got := Tokens(room[:n])
		if !slices.Equal(room, before) {
			t.Fatalf("P403: Tokens changed what it was handed: %v", room)
		}
		if !slices.Equal(got, Tokens(slices.Clip(slices.Clone(room[:n])))) {
			t.Errorf("P403: the spare room behind %d is read", n)
		}
	}
	tokens := Tokens(room)
	for n := range len(tokens) + 1 {
		before := slices.Clone(tokens)
		got := Text(tokens[:n])
		if !slices.Equal(tokens, before) {
			t.Fatalf("P403: Text changed what it was handed: %v", tokens)
		}
		if got != Text(slices.Clip(slices.Clone(tokens[:n]))) {
			t.Errorf("P403: the spare room behind %d is read", n)
		}
	}
}

func TestP403NewMemory(t *testing.T) {
	l := text.Prepare([]byte("a 1.5em 'b' é"))
	first := Tokens(l)
	kept := slices.Clone(first)
	second := Tokens(l)
	for i := range l {
		l[i] = '!'
	}
	if !slices.Equal(first, kept) {
		t.Errorf("P403: the tokens hang on the code points: %v", first)
	}
	for i := range first {
		first[i] = delim('!')
	}
	if !slices.Equal(second, kept) {
		t.Errorf("P403: two answers share memory: %v", second)
	}
}
