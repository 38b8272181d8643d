package sel

import (
	"fmt"
	"math"
	"slices"
	"strings"
	"testing"

	"tapestrier/api"
	"tapestrier/text"
	"tapestrier/tok"
)

func tokensOf(s string) []api.Token { return tok.Tokens(text.Prepare([]byte(s))) }

// show tells a list of selectors as a text: each compound in angle brackets, whatever stands between them ahead of it.
func show(l []api.Selector) string {
	var out []string
	for _, s := range l {
		one := ""
		for _, p := range s.Parts {
			one += map[int]string{api.CNone: "", api.CWithin: "_", api.CChild: ">", api.CNext: "+", api.CAfter: "~"}[p.Comb] + showCompound(p.Compound)
		}
		out = append(out, one)
	}
	return strings.Join(out, ", ")
}

func showCompound(c api.Compound) string {
	out := "<" + c.Tag
	for _, s := range c.IDs {
		out += "#" + s
	}
	for _, s := range c.Classes {
		out += "." + s
	}
	for _, a := range c.Attrs {
		out += fmt.Sprintf("[%s %d %q]", a.Name, a.Op, a.Text)
	}
	for _, p := range c.Pseudos {
		out += fmt.Sprintf(":%d(%d,%d)", p.Kind, p.A, p.B)
		if len(p.List) > 0 {
			out += "{" + show(p.List) + "}"
		}
	}
	return out + ">"
}

// wantList asks for the selectors of s.
func wantList(t *testing.T, s, want string) {
	t.Helper()
	if l, ok := Parse(tokensOf(s)); !ok || show(l) != want {
		t.Errorf("P801: %q: %s, %v, want %s", s, show(l), ok, want)
	}
}

// wantNone asks that each of these is no list of selectors, with white around it neither, nor with a right one beside it, nor within a list of an is.
func wantNone(t *testing.T, texts ...string) {
	t.Helper()
	for _, s := range texts {
		for _, spoilt := range []string{s, " " + s + " ", s + ",a", "a," + s, ":is(" + s + ")", ":not(a, " + s + " )"} {
			if l, ok := Parse(tokensOf(spoilt)); ok || l != nil {
				t.Errorf("P801: %q: %s, %v", spoilt, show(l), ok)
			}
		}
	}
}

// wantTokens asks for the selectors of tokens that no text may have ("": none).
func wantTokens(t *testing.T, l []api.Token, want string) {
	t.Helper()
	if got, ok := Parse(l); ok != (want != "") || show(got) != want {
		t.Errorf("P801: %+v: %s, %v, want %s", l, show(got), ok, want)
	}
}

func TestP801Example(t *testing.T) {
	wantList(t, "a > .b", "<a>><.b>")
}

func TestP801Tags(t *testing.T) {
	wantList(t, "a", "<a>")
	wantList(t, "DIV", "<div>")
	wantList(t, "*", "<>")
	wantList(t, "-x-Y", "<-x-y>")
	wantList(t, "--", "<-->")
	wantList(t, "\u00c4\u212aA", "<\u00c4\u212aa>")
	wantList(t, "\\*", "<*>")
	wantList(t, "\\41 x", "<ax>")
	wantList(t, "root", "<root>")
	wantList(t, "*.a", "<.a>")
	wantList(t, "a/**/.b", "<a.b>")
	wantNone(t, "a*", "*a", "**", "a/**/b", "a/**/*", ".a*", ".a/**/b", "#a*", "[a]b", "[a]*", ":root/**/a", ":is(a)b", "a|b", "*|a", "|a", "f()", "f(", "&", "a&", "1", "1a", "2%", "@a", "\"a\"", "'a")
}

func TestP801IDsAndClasses(t *testing.T) {
	wantList(t, "#a", "<#a>")
	wantList(t, "#A", "<#A>")
	wantList(t, "#1", "<#1>")
	wantList(t, "#-", "<#->")
	wantList(t, "#\\31 B", "<#1B>")
	wantList(t, "#a#a#B", "<#a#a#B>")
	wantList(t, ".a", "<.a>")
	wantList(t, ".A", "<.A>")
	wantList(t, ".a.a.B", "<.a.a.B>")
	wantList(t, "./**/a", "<.a>")
	wantList(t, "T.c#i.D#J", "<t#i#J.c.D>")
	wantNone(t, ".", "#", "..a", ".#a", ". a", "./**/ a", "# a", ".1", ".1a", ".*", ".f(", ".f()", ".\"a\"", ".a.", "a.", "a#", ".-", "a. b", ".:root", ".[a]", ".,a", ".>a")
}

func TestP801Attributes(t *testing.T) {
	wantList(t, "[a]", `<[a 0 ""]>`)
	wantList(t, "[A]", `<[a 0 ""]>`)
	wantList(t, "x[A][b=C].d", `<x.d[a 0 ""][b 1 "C"]>`)
	for i, operator := range []string{"=", "~=", "|=", "^=", "$=", "*="} {
		for _, blank := range []string{"", " ", "\n\t", " /**/ ", "/**/", " /**/ /**/\n/**/ "} {
			for _, held := range []string{"B", "\"B\"", "'B'", "\\42 ", "\"\\42\""} {
				for _, s := range []string{"[A@B]", "[_A@B]", "[A_@B]", "[A@_B]", "[A@B_]", "[_A_@_B_]"} {
					spelt := strings.NewReplacer("_", blank, "@", operator, "B", held).Replace(s)
					wantList(t, spelt, fmt.Sprintf(`<[a %d "B"]>`, i+1))
				}
			}
			wantList(t, "["+blank+"A"+blank+"]", `<[a 0 ""]>`)
		}
		wantList(t, "[a"+operator+"'']", fmt.Sprintf(`<[a %d ""]>`, i+1))
		wantList(t, "[a"+operator+"\" \\\"x]\"]", fmt.Sprintf(`<[a %d " \"x]"]>`, i+1))
	}
	// Comments part nothing.
	wantList(t, "[a~/**/=b]", `<[a 2 "b"]>`)
}

func TestP801NoAttributes(t *testing.T) {
	for _, op := range []string{"~", "|", "^", "$", "*"} {
		wantNone(t, "[a"+op+"]", "[a"+op+"b]", "[a"+op+" =b]", "[a"+op+"/**/ =b]", "[a"+op+op+"=b]", "[a"+op+"==b]", "[a="+op+"b]", "["+op+"=b]", "[a"+op+"=]", "[a"+op+"=1]", "[a"+op)
	}
	wantNone(t, "[", "[]", "[ ]", "]", "[a", "[a ", "[a=", "[a=b", "[a='b'", "[=]", "[=b]", "[a=]", "[a b]", "[a=b c]", "[a='b'c]", "[a='b' 'c']", "[a='b' i]", "[a==b]", "[a= =b]", "[a!=b]", "[a!b]", "[a,b]", "[a=b,c]", "[a=1]", "[a=1px]", "[a=50%]", "[a=#b]", "[a=*]", "[a=.b]", "[a=f()]", "[a=f(]", "[a=(b)]", "[a=\"b\n]", "[*]", "[.a]", "[#a]", "['a']", "['a'=b]", "[1]", "[a|b]", "[a|b=c]", "[*|a]", "[|a]", "[a]]", "[[a]]", "[a}", "[a)", "[a=b}", "[(a)]", "[:root]", "[a=b:c]", "[@a]", "[f()]")
}

func TestP801Pseudos(t *testing.T) {
	for name, kind := range map[string]int{"root": 1, "first-child": 2, "last-child": 3, "only-child": 4, "empty": 5} {
		want := fmt.Sprintf(":%d(0,0)", kind)
		for _, s := range []string{name, strings.ToUpper(name), strings.ToUpper(name[:1]) + name[1:], "/**/" + name, "\\" + fmt.Sprintf("%x ", name[0]) + name[1:]} {
			wantList(t, ":"+s, "<"+want+">")
			wantList(t, "a:"+s+":"+s+".b", "<a.b"+want+want+">")
		}
		wantNone(t, ": "+name, ":/**/ "+name, "::"+name, ":"+name+"(", ":"+name+"()", ":"+name+"(a)", ":"+name+"s", ":"+name[1:], ":-"+name, ":#"+name, ":."+name, ":'"+name+"'", ":"+name+":", name+":", ":@"+name, ":"+name+"-child")
	}
	wantList(t, ":root:first-child:last-child:only-child:empty:root", "<:1(0,0):2(0,0):3(0,0):4(0,0):5(0,0):1(0,0)>")
	wantNone(t, ":", "::", "a:", ":1", ":*", ":[a]", ":(a)", ":a", ":hover", "::before", ":nth-child", ":not", ":is", ":odd", ":first_child", ":first- child", ":r\u00d6ot", ":\u0130s(a)", ":where(a)", ":has(a)", ":matches(a)", ":nth-last-child(1)", ":nth-of-type(1)", ":first-of-type", ":nth-child (1)", ":not (a)", ":is (a)", ":nth-child/**/(1)")
}

func TestP801Nth(t *testing.T) {
	for held, want := range map[string]string{
		"odd": "2,1", "ODD": "2,1", "Odd": "2,1", "\\6f dd": "2,1", "even": "2,0", "EVEN": "2,0", "eVeN": "2,0",
		"0": "0,0", "-0": "0,0", "+0": "0,0", "1": "0,1", "+1": "0,1", "-1": "0,-1", "3": "0,3", "007": "0,7", "12345": "0,12345", "-12345": "0,-12345",
		"2147483": "0,2147483", "2147484": "0,2147483", "-2147484": "0,-2147483", "99999999999999999999999": "0,2147483",
	} {
		for _, blank := range []string{"", " ", "\n", " /**/ ", "/**/"} {
			for _, s := range []string{":nth-child(@)", ":nth-child(_@)", ":nth-child(@_)", ":nth-child(_@_)", ":NTH-Child(_@_)"} {
				wantList(t, strings.NewReplacer("_", blank, "@", held).Replace(s), "<:6("+want+")>")
			}
		}
		wantNone(t, ":nth-child("+held, ":nth-child("+held+"]", ":nth-child("+held+"))", ":nth-child("+held+" "+held+")", ":nth-child("+held+","+held+")", ":nth-child(("+held+"))", ":nth-child("+held+"of a)", ":nth-child", ":is("+held+":nth-child)", ":nth("+held+")")
	}
	wantNone(t, ":nth-child()", ":nth-child( )", ":nth-child(", ":nth-child(a)", ":nth-child(odds)", ":nth-child(n)", ":nth-child(2n)", ":nth-child(2n+1)", ":nth-child(-n+3)", ":nth-child(1.5)", ":nth-child(1.0)", ":nth-child(.5)", ":nth-child(1%)", ":nth-child(1px)", ":nth-child('odd')", ":nth-child(\"1\")", ":nth-child(#odd)", ":nth-child(+ 1)", ":nth-child(- 1)", ":nth-child(+odd)", ":nth-child(*)", ":nth-child(.a)", ":nth-child(odd,even)", ":nth-child(,1)", ":nth-child(1,)")
}

// The whole part of a number that no text has, too.
func TestP801NthHanded(t *testing.T) {
	row := func(one api.Token) []api.Token {
		return []api.Token{{Kind: api.TColon}, {Kind: api.TFunc, Text: "nth-child"}, one, {Kind: api.TEnd}}
	}
	for n, want := range map[int]int{0: 0, 1: 0, 999: 0, 1000: 1, 1001: 1, 1999: 1, 2000: 2, -1: 0, -999: 0, -1000: -1, -1001: -1, -1999: -1, -2000: -2, math.MaxInt: 9223372036854775, math.MinInt: -9223372036854775, api.MaxNum: 2147483} {
		wantTokens(t, row(api.Token{Kind: api.TNumber, N: n, Whole: true}), fmt.Sprintf("<:6(0,%d)>", want))
		wantTokens(t, row(api.Token{Kind: api.TNumber, N: n, Whole: true, Text: "odd", C: 7}), fmt.Sprintf("<:6(0,%d)>", want))
		wantTokens(t, row(api.Token{Kind: api.TNumber, N: n}), "")
	}
	for kind := -2; kind <= 25; kind++ {
		want := map[int]string{api.TIdent: "<:6(2,1)>", api.TNumber: "<:6(0,3)>"}[kind]
		wantTokens(t, row(api.Token{Kind: kind, Text: "odd", N: 3000, Whole: true}), want)
	}
}

func TestP801Lists(t *testing.T) {
	wantList(t, ":not(a)", "<:7(0,0){<a>}>")
	wantList(t, ":is(a)", "<:8(0,0){<a>}>")
	wantList(t, ":NOT(a):Is(B)", "<:7(0,0){<a>}:8(0,0){<b>}>")
	wantList(t, ":not( a , b )", "<:7(0,0){<a>, <b>}>")
	wantList(t, ":is(\na b>c,.D /**/ )", "<:8(0,0){<a>_<b>><c>, <.D>}>")
	wantList(t, "x:is(a,:not(b,c) d):root#e f,g", "<x#e:8(0,0){<a>, <:7(0,0){<b>, <c>}>_<d>}:1(0,0)>_<f>, <g>")
	wantList(t, ":is(:nth-child(2):not([a=b])):empty", `<:8(0,0){<:6(0,2):7(0,0){<[a 1 "b"]>}>}:5(0,0)>`)
	wantNone(t, ":not()", ":is()", ":not( )", ":is(/**/ /**/)", ":not(,)", ":not(a,)", ":not(,a)", ":not(a,,b)", ":not(a", ":not(a ", ":not(", ":is(a,", ":not(a]", ":not(a}", ":not(a))", ":not(a) )", ":not(:is(a)", ":not(:is(a", ":not(>a)", ":not(a>)", ":is(+a)", ":is(a~)", ":is((a))", ":is({a})", ":is(a;b)", ":not(:hover)", ":is(a b:c)", ":not(1)", ":not(odd", ":is(a)(b)", ":is(a) (b)", ":not(a) b)")
}

func TestP801Combinators(t *testing.T) {
	for comb, want := range map[string]string{">": ">", "+": "+", "~": "~", " ": "_", "\n": "_", "\t \n": "_", " /**/ ": "_", " /**/": "_", "/**/ ": "_", "/**/ /**/ /**/\n/**/": "_"} {
		for _, blank := range []string{"", " ", "\n\t", " /**/ ", "/**/"} {
			for _, s := range []string{"a@b", "a_@b", "a@_b", "a_@_b", "_a_@_b_"} {
				wantList(t, strings.NewReplacer("_", blank, "@", comb).Replace(s), "<a>"+want+"<b>")
			}
		}
		// Whatever compounds stand beside it.
		for one, compound := range map[string]string{"a": "<a>", "*": "<>", "#i": "<#i>", ".c": "<.c>", "[m]": `<[m 0 ""]>`, ":root": "<:1(0,0)>", ":not(a)": "<:7(0,0){<a>}>", "A.c:empty": "<a.c:5(0,0)>"} {
			wantList(t, one+comb+one, compound+want+compound)
			wantList(t, one+comb+"x"+comb+one, compound+want+"<x>"+want+compound)
			wantList(t, ":is("+one+comb+one+"),"+one+comb+one, "<:8(0,0){"+compound+want+compound+"}>, "+compound+want+compound)
		}
	}
	wantList(t, "a b>c+d~e f", "<a>_<b>><c>+<d>~<e>_<f>")
	wantList(t, "a>b c>d", "<a>><b>_<c>><d>")
	for _, a := range []string{">", "+", "~"} {
		wantNone(t, a, a+"a", "a"+a, "a "+a, a+" a", "a"+a+"b"+a, "a "+a+" , b")
		for _, b := range []string{">", "+", "~"} {
			wantNone(t, "a"+a+b+"b", "a "+a+" "+b+" b", "a"+a+"/**/"+b+"b", a+b)
		}
		wantNone(t, "a"+a+"1", "a"+a+"=b", "a"+a+"'b'", "a"+a+")", "a "+a+" |b")
	}
	wantNone(t, "a||b", "a || b", "a|b", "a<b", "a - b", "a / b", "a ^ b", "a = b", "a ! b", "a & b", "a ; b", "a >> b", "a /deep/ b")
}

func TestP801White(t *testing.T) {
	for _, blank := range []string{" ", "\n", "\t\n ", " /**/ ", " /**/ /**/ /**/ "} {
		for _, s := range []string{"_a,b", "a_,b", "a,_b", "a,b_", "_a_,_b_"} {
			wantList(t, strings.ReplaceAll(s, "_", blank), "<a>, <b>")
		}
		for _, s := range []string{":is(_a,b)", ":is(a_,b)", ":is(a,_b)", ":is(a,b_)", "_:is(_a_,_b_)_"} {
			wantList(t, strings.ReplaceAll(s, "_", blank), "<:8(0,0){<a>, <b>}>")
		}
		wantNone(t, blank, "a,"+blank, blank+",a", "."+blank+"a", "#"+blank+"a", ":"+blank+"root", ":not"+blank+"(a)", "a"+blank+">"+blank)
	}
	// White between a compound's units parts compounds.
	wantList(t, "a .b", "<a>_<.b>")
	wantList(t, "a #b [c] :root", `<a>_<#b>_<[c 0 ""]>_<:1(0,0)>`)
	wantList(t, "* *", "<>_<>")
}

func TestP801NoList(t *testing.T) {
	wantNone(t, "", " ", "/**/", ",", ",,", "a,", ",a", "a,,b", "a, ,b", "a b,", "a;", ";a", "a{", "{a}", "a}", "(a)", "a(", "a)", ")", "a]", "]", "a!", "!a", "a b)", "a @b", "a \"b\"", "\"", "\"\n", "a \"\n")
	for _, l := range [][]api.Token{nil, {}} {
		wantTokens(t, l, "")
	}
}

// Each kind of token, known or not, stands for nothing but itself.
func TestP801ByKind(t *testing.T) {
	for _, s := range []string{"a", "*", "#a", "a.b", "a>b", "a b", "a,b", "[a]", "[a=b]", "[a|='b']", ":root", ":nth-child(2)", ":nth-child(odd)", ":not(a)", ":is(a,b)", "a:empty b"} {
		l := tokensOf(s)
		for i := range l {
			for kind := -3; kind <= 30; kind++ {
				turned := slices.Clone(l)
				turned[i].Kind = kind
				compare(t, turned)
				turned = slices.Insert(slices.Clone(l), i, api.Token{Kind: kind, Text: "root", C: '*'})
				compare(t, turned)
				compare(t, append(slices.Clone(l), api.Token{Kind: kind, Text: "not", N: 1000, Whole: true, C: '.'}))
			}
			for _, c := range []int{-1, 0, '*', '.', '>', '+', '~', '=', '|', '^', '$', '!', '*' + 256, '*' + 1<<32, math.MinInt, math.MaxInt} {
				turned := slices.Clone(l)
				turned[i] = api.Token{Kind: api.TDelim, C: c}
				compare(t, turned)
			}
		}
	}
}

// Names that no text has are names too, and fields that a kind does not name are not looked at.
func TestP801Handed(t *testing.T) {
	odd := func(kind int, s string) api.Token {
		return api.Token{Kind: kind, Text: s, N: -5, Whole: true, C: '*'}
	}
	dot := api.Token{Kind: api.TDelim, C: '.', Text: "x", N: 7}
	wantTokens(t, []api.Token{odd(api.TIdent, "")}, "<>")
	wantTokens(t, []api.Token{odd(api.TIdent, "A B\xff")}, "<a b\xff>")
	wantTokens(t, []api.Token{odd(api.THash, "")}, "<#>")
	wantTokens(t, []api.Token{odd(api.THash, "A B")}, "<#A B>")
	wantTokens(t, []api.Token{dot, odd(api.TIdent, "")}, "<.>")
	wantTokens(t, []api.Token{dot, odd(api.TIdent, "A B")}, "<.A B>")
	wantTokens(t, []api.Token{odd(api.TSquare, "a"), odd(api.TIdent, ""), odd(api.TBack, "b")}, `<[ 0 ""]>`)
	wantTokens(t, []api.Token{odd(api.TIdent, "a"), odd(api.TWhite, "b"), odd(api.TWhite, ","), odd(api.TIdent, "c")}, "<a>_<c>")
	wantTokens(t, []api.Token{odd(api.TIdent, "a"), odd(api.TComma, "b"), odd(api.TIdent, "c")}, "<a>, <c>")
	wantTokens(t, []api.Token{odd(api.TColon, "a"), odd(api.TFunc, "Is"), odd(api.TIdent, "c"), odd(api.TEnd, "d")}, "<:8(0,0){<c>}>")
	wantTokens(t, []api.Token{odd(api.TColon, "a"), odd(api.TIdent, "")}, "")
	wantTokens(t, []api.Token{odd(api.TColon, "a"), odd(api.TFunc, ""), odd(api.TEnd, "")}, "")
	wantTokens(t, []api.Token{{}}, "")
	wantTokens(t, []api.Token{odd(api.TIdent, "a"), {}}, "")
	wantTokens(t, []api.Token{{}, odd(api.TIdent, "a")}, "")
}

func TestP801Depth(t *testing.T) {
	for _, opening := range []string{":not(", ":is(", ":NOT( ", "a:is(b, ", ":is(a>:not("} {
		lists := strings.Count(opening, "(")
		for n := 1; n <= 12; n++ {
			s := strings.Repeat(opening, n) + "x" + strings.Repeat(")", n*lists)
			if l, ok := Parse(tokensOf(s)); ok != (n*lists <= 8) || ok && plainDepth(l) != n*lists || !ok && l != nil {
				t.Errorf("P801: %d lists in each other: %v", n*lists, ok)
			}
			compare(t, tokensOf(s))
		}
	}
	eight := strings.Repeat(":not(", 8) + "a" + strings.Repeat(")", 8)
	seven := strings.Repeat(":is(", 7) + "a" + strings.Repeat(")", 7)
	for _, s := range []string{eight + eight, eight + " " + eight, eight + "," + eight, ":not(" + seven + seven + "," + seven + " " + seven + ")", strings.Repeat(":is(a)", 20), ":is(" + strings.Repeat(":not(b),", 20) + "c)", eight + ":nth-child(odd)"} {
		if _, ok := Parse(tokensOf(s)); !ok {
			t.Errorf("P801: lists side by side: %q", s)
		}
	}
	// A function that is none of both is no list.
	if _, ok := Parse(tokensOf(strings.Replace(eight, "a", ":nth-child(2)", 1))); !ok {
		t.Error("P801: an nth-child in eight lists")
	}
	for _, s := range []string{":is(" + eight + ")", "a," + ":is(" + eight + ")", seven + ":is(" + eight + ")", eight + ":not(b):is(" + eight + ")", ":not(a,b c" + eight + ")"} {
		if l, ok := Parse(tokensOf(s)); ok || l != nil {
			t.Errorf("P801: nine lists in each other: %q", s)
		}
	}
	for _, s := range []string{":not(", ":is(a,", "[", "(", ":nth-child("} {
		for _, n := range []int{9, 300, 100_000} {
			if l, ok := Parse(tokensOf(strings.Repeat(s, n))); ok || l != nil {
				t.Errorf("P801: %d times %q", n, s)
			}
		}
	}
}

func TestP801ThousandTokens(t *testing.T) {
	for _, row := range []struct {
		unit, last string
	}{{".a", ".a"}, {"a ", "a "}, {"a,", "a,a"}, {"a>", "a>a"}, {":root", ":root"}, {"#a", "#a"}, {":is(a)", ":is(a)"}, {"[a=b]", "[a=b]"}, {" /**/", "a"}, {"/**/ ", "a"}} {
		size, end := len(tokensOf(row.unit)), tokensOf(row.last)
		for n := 980; n <= 1020; n++ {
			// What is missing to n tokens is made up by white ahead.
			var l []api.Token
			for len(l)+size+len(end) <= n {
				l = append(l, tokensOf(row.unit)...)
			}
			l = append(l, end...)
			blank := slices.Repeat([]api.Token{{Kind: api.TWhite}}, n-len(l))
			l = append(blank, l...)
			got, ok := Parse(l)
			if len(l) != n || ok != (n <= 1000) || !ok && got != nil {
				t.Errorf("P801: %d tokens of %q: %v", len(l), row.unit, ok)
			}
		}
	}
	l, ok := Parse(tokensOf(strings.Repeat("a ", 499) + "b "))
	if !ok || len(l) != 1 || len(l[0].Parts) != 500 || l[0].Parts[499].Compound.Tag != "b" || l[0].Parts[499].Comb != api.CWithin {
		t.Error("P801: 1,000 tokens of one selector")
	}
	l, ok = Parse(tokensOf(strings.Repeat("a,", 499) + "b"))
	if !ok || len(l) != 500 || l[499].Parts[0].Compound.Tag != "b" {
		t.Error("P801: 999 tokens of 500 selectors")
	}
}

// What is left in the midst leaves the reader behind the tokens that it told, and the rest to be read.
func TestIteratorsCanBeLeft(t *testing.T) {
	r := reader{tokens: tokensOf("#a#b.c d")}
	for first := range r.units() {
		if first.Text == "b" {
			break
		}
	}
	if r.place != 2 {
		t.Errorf("units, left behind #b: at %d", r.place)
	}
	for first := range r.units() {
		if first.Kind != api.TDelim || !r.passes(api.TIdent) {
			t.Errorf("units, from there on: %+v", first)
		}
	}
	if r.place != 4 {
		t.Errorf("units, at their end: at %d", r.place)
	}
	r = reader{tokens: tokensOf(" a > b c")}
	for comb := range r.combinators() {
		if comb == api.CChild {
			break
		}
		r.tag()
	}
	if r.place != 5 || r.tag() != "b" {
		t.Errorf("combinators, left behind the >: at %d", r.place)
	}
}
