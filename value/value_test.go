package value

import (
	"math"
	"slices"
	"strings"
	"testing"

	"tapestrier/api"
	"tapestrier/decl"
	"tapestrier/text"
	"tapestrier/tok"
)

// noProps are numbers of which no property is.
var noProps = []int{-1, -2, -8, 8, 9, 16, 255, 256, 1 << 32, 1<<32 + 1, -1 << 32, 1 << 62, math.MaxInt, math.MaxInt - 7, math.MinInt, math.MinInt + 8}

// edges are numbers at and around every bound that a value has.
var edges = []int{0, 1, -1, 2, -2, 499, 500, 999, 1000, 1001, -999, -1000, 1500, 16000, 1 << 31, api.MaxNum, api.MaxNum + 1, -api.MaxNum, 1 << 40, math.MaxInt, math.MaxInt - 1, math.MinInt, math.MinInt + 1}

func tokensOf(s string) []api.Token { return tok.Tokens(text.Prepare([]byte(s))) }

// Tokens of the kinds that values are made of.
func ident(s string) api.Token      { return api.Token{Kind: api.TIdent, Text: s} }
func hash(s string) api.Token       { return api.Token{Kind: api.THash, Text: s} }
func dim(n int, s string) api.Token { return api.Token{Kind: api.TDim, N: n, Text: s} }
func percent(n int) api.Token       { return api.Token{Kind: api.TPercent, N: n} }
func bare(n int) api.Token          { return api.Token{Kind: api.TNumber, N: n} }
func count(n int) api.Token         { return api.Token{Kind: api.TNumber, N: n, Whole: true} }

// wantValue asks for what one token is to the property: a value without a kind is none.
func wantValue(t *testing.T, prop int, one api.Token, kind, n int) {
	t.Helper()
	want := api.Value{Kind: kind, N: n}
	if got, ok := Parse(prop, []api.Token{one}); got != want || ok != (kind != 0) {
		t.Errorf("P702: Parse(%d %s, %+v): %+v, %v, want %+v", prop, Name(prop), one, got, ok, want)
	}
}

// wantNone asks that one token is nothing to the property.
func wantNone(t *testing.T, prop int, one api.Token) {
	t.Helper()
	wantValue(t, prop, one, 0, 0)
}

// wantOnly asks for what one token is to these properties, and that it is nothing to all others.
func wantOnly(t *testing.T, one api.Token, kind, n int, props ...int) {
	t.Helper()
	for prop := range api.Props {
		if slices.Contains(props, prop) {
			wantValue(t, prop, one, kind, n)
		} else {
			wantNone(t, prop, one)
		}
	}
}

// spellings tells the word with its letters small and great in all ways.
func spellings(word string) []string {
	out := []string{""}
	for _, c := range []byte(word) {
		var longer []string
		for _, s := range out {
			longer = append(longer, s+strings.ToLower(string(c)))
			if strings.ToUpper(string(c)) != strings.ToLower(string(c)) {
				longer = append(longer, s+strings.ToUpper(string(c)))
			}
		}
		out = longer
	}
	return out
}

// near tells texts that are nearly the word, and are not.
func near(word string) []string {
	out := []string{word + word, " " + word, word + " ", "-" + word, word + "-", word + "s", word + "\x00", "\x00" + word, "\u00a0" + word, "\"" + word + "\"", word + "()", word + ";", word + "!"}
	for i := range word {
		out = append(out, word[:i]+word[i+1:], word[:i], word[:i]+"\xff"+word[i:], word[:i]+"\u017f"+word[i+1:], word[:i]+"\u212a"+word[i+1:], word[:i]+"\u0130"+word[i+1:])
		out = append(out, word[:i]+string(word[i]^0x40)+word[i+1:], word[:i]+string([]byte{word[i] | 0x80})+word[i+1:], word[:i]+string(rune(word[i])+0xfee0)+word[i+1:])
	}
	return out
}

func TestP701(t *testing.T) {
	for prop, want := range []struct {
		name     string
		inherits bool
		initial  int
	}{
		{"color", true, 0},
		{"font-size", true, 16000},
		{"text-align", true, 0},
		{"display", false, 2},
		{"width", false, -1},
		{"margin", false, 0},
		{"opacity", false, 1000},
		{"z-index", false, 1_099_511_627_776},
	} {
		if got, ok := Prop(want.name); got != prop || !ok {
			t.Errorf("P701: Prop(%q): %d, %v, want %d", want.name, got, ok, prop)
		}
		if got := Name(prop); got != want.name {
			t.Errorf("P701: Name(%d): %q, want %q", prop, got, want.name)
		}
		if got := Inherits(prop); got != want.inherits {
			t.Errorf("P701: Inherits(%d): %v", prop, got)
		}
		if got := Initial(prop); got != want.initial {
			t.Errorf("P701: Initial(%d): %d, want %d", prop, got, want.initial)
		}
		for _, name := range slices.Concat(spellings(want.name), near(want.name)) {
			if got, ok := Prop(name); name != want.name && (got != 0 || ok) {
				t.Errorf("P701: Prop(%q): %d, %v, want none", name, got, ok)
			}
		}
	}
}

func TestP701None(t *testing.T) {
	for _, name := range []string{"", " ", "-", "height", "font", "size", "align", "index", "text", "fontsize", "font_size", "z", "background-color", "margin-left", "inherit", "auto", "red", "0", "1", "color,width", "\xff", "--color", strings.Repeat("color", 10_000)} {
		if got, ok := Prop(name); got != 0 || ok {
			t.Errorf("P701: Prop(%q): %d, %v, want none", name, got, ok)
		}
	}
	for _, prop := range noProps {
		if name, inherits, initial := Name(prop), Inherits(prop), Initial(prop); name != "" || inherits || initial != 0 {
			t.Errorf("P701: %d: %q, %v, %d", prop, name, inherits, initial)
		}
	}
}

func TestP702Example(t *testing.T) {
	if got, ok := Parse(api.PColor, tokensOf("#f00")); got != (api.Value{Kind: api.VColor, N: 16711680}) || !ok {
		t.Errorf("P702: #f00: %+v, %v", got, ok)
	}
}

// takes tells a token that the property takes, beside those that all take.
func takes(prop int) api.Token {
	return []api.Token{ident("red"), dim(1000, "px"), ident("left"), ident("block"), ident("auto"), count(0), bare(500), count(3000)}[prop]
}

func TestP702HowMany(t *testing.T) {
	white, none := api.Token{Kind: api.TWhite}, api.Token{}
	for prop := range api.Props {
		for _, one := range []api.Token{takes(prop), ident("inherit")} {
			if got, ok := Parse(prop, []api.Token{one}); !ok || got.Kind == 0 {
				t.Errorf("P702: Parse(%d, %+v): %+v, %v", prop, one, got, ok)
			}
			for _, l := range [][]api.Token{nil, {}, {one, one}, {one, one, one}, {white, one}, {one, white}, {white, one, white}, {one, none}, {none, one}, {one, {Kind: api.TSemi}}, {one, ident("unset")}, {white}, {none}, {white, white}, slices.Repeat([]api.Token{one}, 257), []api.Token{one}[:0]} {
				if got, ok := Parse(prop, l); ok || got != (api.Value{}) {
					t.Errorf("P702: Parse(%d, %+v): %+v, %v, want none", prop, l, got, ok)
				}
			}
		}
	}
}

func TestP702NoProperty(t *testing.T) {
	for _, prop := range noProps {
		for own := range api.Props {
			wantNone(t, prop, takes(own))
		}
		for _, one := range []api.Token{ident("inherit"), ident("initial"), ident("unset"), hash("fff"), dim(0, "px"), percent(0), bare(0)} {
			wantNone(t, prop, one)
		}
		if got, ok := Parse(prop, nil); ok || got != (api.Value{}) {
			t.Errorf("P702: Parse(%d, nil): %+v, %v", prop, got, ok)
		}
	}
}

// A token's kind is what is asked first: what its other fields hold makes no other kind of it.
func TestP702Kinds(t *testing.T) {
	for prop := range api.Props {
		own := takes(prop)
		for kind := -2; kind <= 25; kind++ {
			for _, s := range []string{"inherit", "initial", "unset"} {
				if kind != api.TIdent && kind != api.TNumber && kind != api.TPercent {
					wantNone(t, prop, api.Token{Kind: kind, Text: s})
				}
			}
			if one := own; kind != own.Kind {
				one.Kind, one.Text = kind, own.Text+"!"
				if own.Kind == api.TIdent {
					one.N = -1
				}
				want, ok := plainParse(prop, []api.Token{one})
				if ok && kind != api.TNumber && kind != api.TPercent {
					t.Fatalf("%d, %+v is taken", prop, one)
				}
				wantValue(t, prop, one, want.Kind, want.N)
			}
		}
	}
}

// Fields that a token's kind does not name are not looked at.
func TestP702OtherFields(t *testing.T) {
	for _, n := range edges {
		for _, whole := range []bool{false, true} {
			full := func(kind int, s string) api.Token { return api.Token{Kind: kind, Text: s, N: n, Whole: whole, C: n} }
			wantOnly(t, full(api.TIdent, "red"), api.VColor, 16711680, api.PColor)
			wantOnly(t, full(api.TIdent, "auto"), api.VKey, 0, api.PWidth, api.PIndex)
			wantOnly(t, full(api.THash, "010203"), api.VColor, 66051, api.PColor)
			for _, s := range []string{"", "px", "inherit", "red", "%"} {
				wantValue(t, api.PMargin, full(api.TPercent, s), api.VPercent, n)
				wantValue(t, api.POpacity, full(api.TNumber, s), api.VNumber, max(0, min(n, 1000)))
			}
			wantValue(t, api.PMargin, full(api.TDim, "px"), api.VPx, n)
			wantNone(t, api.PIndex, full(api.TDim, "px"))
			wantNone(t, api.PIndex, full(api.TPercent, ""))
		}
	}
}

func TestP702EachProperty(t *testing.T) {
	all := []int{0, 1, 2, 3, 4, 5, 6, 7}
	for word, kind := range map[string]int{"inherit": api.VInherit, "initial": api.VInitial, "unset": api.VUnset} {
		for _, s := range spellings(word) {
			wantOnly(t, ident(s), kind, 0, all...)
		}
		for _, s := range near(word) {
			wantOnly(t, ident(s), 0, 0)
		}
	}
	for _, s := range []string{"", " ", "inherited", "revert", "unsetting", "in", "none!", "important", "\u0131nherit", "in\u0131tial"} {
		wantOnly(t, ident(s), 0, 0)
	}
}

func TestP702Words(t *testing.T) {
	for _, row := range []struct {
		word    string
		kind, n int
		props   []int
	}{
		{"black", api.VColor, 0, []int{api.PColor}},
		{"white", api.VColor, 16777215, []int{api.PColor}},
		{"red", api.VColor, 16711680, []int{api.PColor}},
		{"green", api.VColor, 32768, []int{api.PColor}},
		{"blue", api.VColor, 255, []int{api.PColor}},
		{"left", api.VKey, 0, []int{api.PAlign}},
		{"right", api.VKey, 1, []int{api.PAlign}},
		{"center", api.VKey, 2, []int{api.PAlign}},
		{"none", api.VKey, 0, []int{api.PDisplay}},
		{"block", api.VKey, 1, []int{api.PDisplay}},
		{"inline", api.VKey, 2, []int{api.PDisplay}},
		{"auto", api.VKey, 0, []int{api.PWidth, api.PIndex}},
	} {
		for _, s := range spellings(row.word) {
			wantOnly(t, ident(s), row.kind, row.n, row.props...)
			wantOnly(t, hash(s), 0, 0)
			wantOnly(t, api.Token{Kind: api.TString, Text: s}, 0, 0)
			wantOnly(t, api.Token{Kind: api.TFunc, Text: s}, 0, 0)
			wantOnly(t, api.Token{Kind: api.TAt, Text: s}, 0, 0)
			wantOnly(t, dim(0, s), 0, 0)
		}
		for _, s := range near(row.word) {
			wantOnly(t, ident(s), 0, 0)
		}
	}
	for _, s := range []string{"yellow", "gray", "transparent", "justify", "start", "inline-block", "flex", "normal", "fff", "f00", "px", "em", "0", "1px", "color", "width"} {
		wantOnly(t, ident(s), 0, 0)
	}
}

func TestP702Colors(t *testing.T) {
	for s, n := range map[string]int{"000": 0, "fff": 16777215, "f00": 16711680, "0f0": 65280, "00f": 255, "123": 1122867, "abc": 11189196, "789": 7833753, "000000": 0, "000001": 1, "000010": 16, "000100": 256, "010000": 65536, "100000": 1048576, "ffffff": 16777215, "ff0000": 16711680, "008000": 32768, "0af1b2": 717234, "123456": 1193046, "abcdef": 11259375, "987654": 9991764, "fedcba": 16702650} {
		for _, one := range spellings(s) {
			wantOnly(t, hash(one), api.VColor, n, api.PColor)
			wantOnly(t, ident(one), 0, 0)
		}
	}
}

func TestP702NoColors(t *testing.T) {
	const digits = "0aF1b2C93dE8"
	for size := range len(digits) + 1 {
		if size != 3 && size != 6 {
			wantOnly(t, hash(digits[:size]), 0, 0)
		}
	}
	wantOnly(t, hash(strings.Repeat("f", 3<<16)), 0, 0)
	// Each byte in each place, of three and of six.
	for _, s := range []string{"1a2", "1a2B3c"} {
		for i := range s {
			for c := range 256 {
				one := []byte(s)
				one[i] = byte(c)
				wide := s[:i] + string(rune(c)) + s[i+1:]
				isDigit := strings.IndexByte("0123456789abcdefABCDEF", byte(c)) >= 0
				if _, ok := Parse(api.PColor, []api.Token{hash(string(one))}); ok != isDigit {
					t.Errorf("P702: #%q: %v", one, ok)
				}
				if _, ok := Parse(api.PColor, []api.Token{hash(wide)}); ok != isDigit {
					t.Errorf("P702: #%q: %v", wide, ok)
				}
			}
		}
	}
	for _, s := range []string{"ggg", "xyz", "0x1", "0x1234", "-12", "+12", "1_2", "1.2", " 12", "12 ", "#12", "12#", "12\x00", "1\u00e92", "\u00e91", "f\u20acf", "\u20ac", "\u20ac\u20ac", "\u20acfff", "fff\u20ac", "\U0001f600", "ab\U0001f600", "\uff11\uff12", "\uff11\uff12\uff13", "\u0661\u0662\u0663", "\u0661\u0662", "\xff\xff\xff", "ff\xff", "1\u0661", "inherit", "ini", "unset", "red", "1e5g00", "12345g", "g12345", "@@@", "```", "GGG", ":::", "///"} {
		wantOnly(t, hash(s), 0, 0)
	}
}

func TestP702Lengths(t *testing.T) {
	for _, n := range edges {
		props := []int{api.PSize, api.PWidth, api.PMargin}
		if n < 0 {
			props = props[2:]
		}
		for _, s := range spellings("px") {
			wantOnly(t, dim(n, s), api.VPx, n, props...)
		}
		for _, s := range spellings("em") {
			wantOnly(t, dim(n, s), api.VEm, n, props...)
		}
		wantOnly(t, percent(n), api.VPercent, n, props...)
		for _, s := range slices.Concat(near("px"), near("em"), []string{"", "%", "pt", "pc", "ex", "rem", "cm", "mm", "in", "q", "ch", "vw", "vh", "deg", "s", "fr", "pem", "epx", "pm", "ex", "mp", "xp", "me", "emem", "inherit", "auto"}) {
			wantOnly(t, dim(n, s), 0, 0)
		}
	}
}

func TestP702Numbers(t *testing.T) {
	for _, n := range edges {
		for _, isWhole := range []bool{false, true} {
			one := api.Token{Kind: api.TNumber, N: n, Whole: isWhole}
			for _, prop := range []int{api.PColor, api.PSize, api.PAlign, api.PDisplay, api.PWidth} {
				wantNone(t, prop, one)
			}
			if n == 0 {
				wantValue(t, api.PMargin, one, api.VPx, 0)
			} else {
				wantNone(t, api.PMargin, one)
			}
			wantValue(t, api.POpacity, one, api.VNumber, min(max(n, 0), 1000))
		}
		wantValue(t, api.PIndex, count(n), api.VNumber, n)
		wantNone(t, api.PIndex, bare(n))
	}
	for n := -1100; n <= 2100; n++ {
		want := n
		if n < 0 {
			want = 0
		} else if n > 1000 {
			want = 1000
		}
		wantValue(t, api.POpacity, bare(n), api.VNumber, want)
	}
}

// Values as they are written.
func TestP702Written(t *testing.T) {
	for _, row := range []struct {
		prop    int
		s       string
		kind, n int
	}{
		{api.PColor, "#FFF", api.VColor, 16777215},
		{api.PColor, "#0aF1b2", api.VColor, 717234},
		{api.PColor, "#\\66 00", api.VColor, 16711680},
		{api.PColor, "#-12", 0, 0},
		{api.PColor, "#1.2", 0, 0},
		{api.PColor, "\\72 ed", api.VColor, 16711680},
		{api.PColor, "/**/red/**/", api.VColor, 16711680},
		{api.PColor, "red ", 0, 0},
		{api.PColor, " red", 0, 0},
		{api.PColor, "\"red\"", 0, 0},
		{api.PColor, "red()", 0, 0},
		{api.PSize, "2px", api.VPx, 2000},
		{api.PSize, "+.5Em", api.VEm, 500},
		{api.PSize, "-0px", api.VPx, 0},
		{api.PSize, "-0.0004px", api.VPx, 0},
		{api.PSize, "-0.001px", 0, 0},
		{api.PSize, "99999999999px", api.VPx, api.MaxNum},
		{api.PSize, "2 px", 0, 0},
		{api.PSize, "0", 0, 0},
		{api.PWidth, "120%", api.VPercent, 120000},
		{api.PWidth, "-99999999999%", 0, 0},
		{api.PWidth, "none", 0, 0},
		{api.PMargin, "-99999999999em", api.VEm, -api.MaxNum},
		{api.PMargin, "-0", api.VPx, 0},
		{api.PMargin, "+0.000", api.VPx, 0},
		{api.PMargin, "0.0009", api.VPx, 0},
		{api.PMargin, "0.001", 0, 0},
		{api.PMargin, "0 0", 0, 0},
		{api.PMargin, "auto", 0, 0},
		{api.POpacity, ".25", api.VNumber, 250},
		{api.POpacity, "99999999999", api.VNumber, 1000},
		{api.POpacity, "-1", api.VNumber, 0},
		{api.POpacity, "50%", 0, 0},
		{api.PIndex, "-7", api.VNumber, -7000},
		{api.PIndex, "+99999999999", api.VNumber, api.MaxNum},
		{api.PIndex, "7.0", 0, 0},
		{api.PIndex, "7px", 0, 0},
	} {
		want := api.Value{Kind: row.kind, N: row.n}
		if got, ok := Parse(row.prop, tokensOf(row.s)); got != want || ok != (row.kind != 0) {
			t.Errorf("P702: %s: %q: %+v, %v, want %+v", Name(row.prop), row.s, got, ok, want)
		}
	}
}

// wantSets asks for what the block s sets.
func wantSets(t *testing.T, s string, want ...api.Set) {
	t.Helper()
	if got := Sets(decl.Parse(tokensOf(s))); !slices.Equal(got, want) {
		t.Errorf("P703: %q: %+v, want %+v", s, got, want)
	}
}

// set is a property that is set, not important, and urgent one that is.
func set(prop, kind, n int) api.Set { return api.Set{Prop: prop, Value: api.Value{Kind: kind, N: n}} }
func urgent(prop, kind, n int) api.Set {
	return api.Set{Prop: prop, Value: api.Value{Kind: kind, N: n}, Important: true}
}

func TestP703(t *testing.T) {
	wantSets(t, "")
	wantSets(t, "color:red", set(api.PColor, api.VColor, 16711680))
	wantSets(t, "COLOR:red", set(api.PColor, api.VColor, 16711680))
	wantSets(t, "margin:0 !important", urgent(api.PMargin, api.VPx, 0))
	wantSets(t, "width:auto;z-index:auto", set(api.PWidth, api.VKey, 0), set(api.PIndex, api.VKey, 0))
	// In order, the same property as often as it is set.
	wantSets(t, "z-index:2;color:red;z-index:1!important;color:red;color:inherit;opacity:7!important;z-index:2",
		set(api.PIndex, api.VNumber, 2000), set(api.PColor, api.VColor, 16711680), urgent(api.PIndex, api.VNumber, 1000), set(api.PColor, api.VColor, 16711680), set(api.PColor, api.VInherit, 0), urgent(api.POpacity, api.VNumber, 1000), set(api.PIndex, api.VNumber, 2000))
	// All properties, from the last one on.
	wantSets(t, "z-index:unset;opacity:.5;margin:-1em;width:5%;display:none;text-align:right;font-size:2px;color:#123",
		set(api.PIndex, api.VUnset, 0), set(api.POpacity, api.VNumber, 500), set(api.PMargin, api.VEm, -1000), set(api.PWidth, api.VPercent, 5000), set(api.PDisplay, api.VKey, 0), set(api.PAlign, api.VKey, 1), set(api.PSize, api.VPx, 2000), set(api.PColor, api.VColor, 0x112233))
	// Nothing comes of what is no property, or no value of it.
	for _, s := range []string{"height:2px", "--color:red", "color", "color:", "color:!important", "color:auto", "width:red", "font-size:-1px", "color:red red", "margin:1", "z-index:1.0", "text-align:block", "margin:0 0", "colo:red", "inherit:inherit", "color:(red)", "@color:red;"} {
		wantSets(t, s)
		wantSets(t, s+";color:blue", set(api.PColor, api.VColor, 255))
		wantSets(t, "display:block!important;"+s+" !important", urgent(api.PDisplay, api.VKey, 1))
	}
}

// Declarations that no block has: names are taken as they stand.
func TestP703Handed(t *testing.T) {
	red := []api.Token{ident("red")}
	if got := Sets(nil); len(got) != 0 {
		t.Errorf("P703: of none: %+v", got)
	}
	if got := Sets([]api.Decl{}); len(got) != 0 {
		t.Errorf("P703: of an empty list: %+v", got)
	}
	for _, d := range []api.Decl{{}, {Name: "color"}, {Name: "color", Value: []api.Token{}}, {Value: red}, {Name: "", Value: []api.Token{ident("inherit")}}, {Name: "COLOR", Value: red}, {Name: "Color", Value: red}, {Name: " color", Value: red}, {Name: "colors", Value: red}, {Name: "color", Value: []api.Token{{Kind: api.TWhite}, red[0]}}, {Name: "color", Value: []api.Token{red[0], {Kind: api.TWhite}}}} {
		for _, d.Important = range []bool{false, true} {
			if got := Sets([]api.Decl{d}); len(got) != 0 {
				t.Errorf("P703: Sets of %+v: %+v", d, got)
			}
		}
	}
}

func TestP703Many(t *testing.T) {
	const n = 50_000
	got := Sets(decl.Parse(tokensOf(strings.Repeat("color:red;width:x;height:1px;z-index:1!important;", n))))
	if len(got) != 2*n || got[2*n-2] != set(api.PColor, api.VColor, 16711680) || got[2*n-1] != urgent(api.PIndex, api.VNumber, 1000) {
		t.Errorf("P703: %d sets of %d", len(got), 2*n)
	}
}

func TestP704(t *testing.T) {
	for prop := -1; prop <= api.Props; prop++ {
		for _, s := range []string{"", "RED", "#aBc", "1PX", "Inherit", "2em", "5%", "-7", "0.5", "auto auto", " red "} {
			l := tokensOf(s + " Behind 1px")
			whole := slices.Clone(l[:cap(l)])
			size := len(tokensOf(s))
			first, ok := Parse(prop, l[:size])
			again, okAgain := Parse(prop, l[:size])
			clipped, okClipped := Parse(prop, slices.Clone(l[:size]))
			if first != again || first != clipped || ok != okAgain || ok != okClipped {
				t.Errorf("P704: Parse(%d, %q): %+v, %+v, %+v", prop, s, first, again, clipped)
			}
			if !slices.Equal(l[:cap(l)], whole) {
				t.Errorf("P704: Parse(%d, %q): the tokens are changed", prop, s)
			}
		}
	}
}

func TestP704Sets(t *testing.T) {
	l := decl.Parse(tokensOf("COLOR:RED;width:x;Margin:0!important;height:1px;z-index:3;color:blue;opacity:1"))
	decls := slices.Clone(l[:cap(l)])
	var values [][]api.Token
	for _, d := range decls {
		values = append(values, slices.Clone(d.Value))
	}
	handed := l[:5]
	first, again := Sets(handed), Sets(handed)
	if want := Sets(slices.Clone(handed)); len(first) != 3 || !slices.Equal(first, want) || !slices.Equal(again, want) {
		t.Fatalf("P704: %+v, %+v, want %+v", first, again, want)
	}
	for i, d := range l[:cap(l)] {
		if d.Name != decls[i].Name || d.Important != decls[i].Important || !slices.Equal(d.Value, values[i]) {
			t.Errorf("P704: declaration %d is changed: %+v", i, d)
		}
	}
	kept := slices.Clone(again)
	for i := range first[:cap(first)] {
		first[:cap(first)][i] = api.Set{Prop: -1}
	}
	if !slices.Equal(again, kept) || !slices.Equal(Sets(handed), kept) {
		t.Error("P704: two calls' answers share memory")
	}
	// What is written into the declarations afterwards is not seen in the answer.
	for i := range handed {
		for j := range handed[i].Value {
			handed[i].Value[j] = api.Token{}
		}
		handed[i] = api.Decl{}
	}
	if !slices.Equal(again, kept) {
		t.Error("P704: an answer shares memory with the declarations")
	}
}

// Numbers of another kind are cut and asked as ints are.
func TestWithin(t *testing.T) {
	for n := range 256 {
		c := byte(n)
		if got := cut(c, 10, 250); int(got) != cut(n, 10, 250) {
			t.Errorf("cut of the byte %d: %d", c, got)
		}
		if got := within(c, 10, 250); got != (n >= 10 && n <= 250) || got != within(n, 10, 250) {
			t.Errorf("the byte %d is within: %v", c, got)
		}
	}
}
