package value

import (
	"math/rand"
	"regexp"
	"slices"
	"strconv"
	"strings"
	"testing"

	"tapestrier/api"
	"tapestrier/decl"
)

// plainNames are P701's names, in their order.
var plainNames = strings.Split("color, font-size, text-align, display, width, margin, opacity, z-index", ", ")

// plainTable is P702's table as it stands there, one value a line: the property, the kind of token, its text, what its number must be, the value's kind and number (the token's own: N).
const plainTable = `
each TIdent inherit any VInherit 0
each TIdent initial any VInitial 0
each TIdent unset any VUnset 0
color THash ([0-9a-fA-F])([0-9a-fA-F])([0-9a-fA-F]) any VColor $1$1$2$2$3$3
color THash ([0-9a-fA-F]{6}) any VColor $1
color TIdent black any VColor 0
color TIdent white any VColor 16777215
color TIdent red any VColor 16711680
color TIdent green any VColor 32768
color TIdent blue any VColor 255
font-size TDim px not-below VPx N
font-size TDim em not-below VEm N
font-size TPercent .* not-below VPercent N
text-align TIdent left any VKey 0
text-align TIdent right any VKey 1
text-align TIdent center any VKey 2
display TIdent none any VKey 0
display TIdent block any VKey 1
display TIdent inline any VKey 2
width TIdent auto any VKey 0
width TDim px not-below VPx N
width TDim em not-below VEm N
width TPercent .* not-below VPercent N
margin TDim px any VPx N
margin TDim em any VEm N
margin TPercent .* any VPercent N
margin TNumber .* zero VPx 0
opacity TNumber .* below VNumber 0
opacity TNumber .* between VNumber N
opacity TNumber .* above VNumber 1000
z-index TIdent auto any VKey 0
z-index TNumber .* whole VNumber N
`

var plainTokens = map[string]int{"TIdent": api.TIdent, "THash": api.THash, "TDim": api.TDim, "TPercent": api.TPercent, "TNumber": api.TNumber}

var plainKinds = map[string]int{"VInherit": api.VInherit, "VInitial": api.VInitial, "VUnset": api.VUnset, "VColor": api.VColor, "VPx": api.VPx, "VEm": api.VEm, "VPercent": api.VPercent, "VKey": api.VKey, "VNumber": api.VNumber}

var plainAsked = map[string]func(one api.Token) bool{
	"any":       func(one api.Token) bool { return true },
	"not-below": func(one api.Token) bool { return !(one.N < 0) },
	"zero":      func(one api.Token) bool { return one.N == 0 },
	"below":     func(one api.Token) bool { return one.N < 0 },
	"between":   func(one api.Token) bool { return one.N >= 0 && one.N <= 1000 },
	"above":     func(one api.Token) bool { return one.N > 1000 },
	"whole":     func(one api.Token) bool { return one.Whole },
}

// plainRow is a line of the table, made ready.
type plainRow struct {
	prop, token, number string
	text                *regexp.Regexp
	asked               func(one api.Token) bool
	kind                int
}

var plainRows = func() []plainRow {
	var out []plainRow
	for _, line := range strings.Split(strings.TrimSpace(plainTable), "\n") {
		f := strings.Fields(line)
		out = append(out, plainRow{prop: f[0], token: f[1], text: regexp.MustCompile(`(?s)^(?:` + f[2] + `)$`), asked: plainAsked[f[3]], kind: plainKinds[f[4]], number: f[5]})
	}
	return out
}()

// plainLower is text.Lower said plainly.
func plainLower(s string) string {
	for c := 'A'; c <= 'Z'; c++ {
		s = strings.ReplaceAll(s, string(c), string(c+32))
	}
	return s
}

// plainParse is P702 by its table: it asks all rows, of which no two may fit.
func plainParse(prop int, t []api.Token) (api.Value, bool) {
	var found []api.Value
	for _, row := range plainRows {
		if prop < 0 || prop >= len(plainNames) || len(t) != 1 || row.prop != "each" && row.prop != plainNames[prop] {
			continue
		}
		one := t[0]
		s := one.Text
		if one.Kind != api.THash {
			s = plainLower(s)
		}
		if one.Kind != plainTokens[row.token] || !row.text.MatchString(s) || !row.asked(one) {
			continue
		}
		found = append(found, api.Value{Kind: row.kind, N: row.of(s, one.N)})
	}
	if len(found) > 1 {
		panic("two rows fit")
	}
	if len(found) == 0 {
		return api.Value{}, false
	}
	return found[0], true
}

// of tells the number of the row's value: digits are those of the text.
func (row plainRow) of(s string, n int) int {
	if row.number == "N" {
		return n
	}
	base, digits := 10, row.number
	if strings.Contains(digits, "$") {
		// Braces, for $1$1 would be read as one name otherwise in some texts.
		base, digits = 16, row.text.ReplaceAllString(s, regexp.MustCompile(`\$(\d)`).ReplaceAllString(digits, `$${$1}`))
	}
	got, err := strconv.ParseInt(digits, base, 64)
	if err != nil {
		panic(err)
	}
	return int(got)
}

// plainSets is P703 by the plain reading of values.
func plainSets(l []api.Decl) []api.Set {
	out := []api.Set{}
	for _, d := range l {
		if v, ok := plainParse(slices.Index(plainNames, d.Name), d.Value); ok {
			out = append(out, api.Set{Prop: slices.Index(plainNames, d.Name), Value: v, Important: d.Important})
		}
	}
	return out
}

// compare holds Parse against the plain one, of each property.
func compare(t *testing.T, l []api.Token) {
	t.Helper()
	for prop := -1; prop <= api.Props; prop++ {
		got, ok := Parse(prop, l)
		want, wantOk := plainParse(prop, l)
		if got != want || ok != wantOk {
			t.Fatalf("P702: Parse(%d, %+v): %+v, %v, want %+v, %v", prop, l, got, ok, want, wantOk)
		}
	}
}

// plainTexts are all words of the table and more.
var plainTexts = strings.Fields("inherit INITIAL uNset black White RED green bluE left right cenTER none block InLine auto px PX eM em pt rem fff FFF f0F 0a1 12 1234 123456 AbCdEf 12345g ggg x - -- red1 reds")

func TestP702AllTokens(t *testing.T) {
	for kind := -1; kind <= 22; kind++ {
		for _, s := range append(plainTexts, "", " ", "\n", "\u212a", "1\n2") {
			for _, n := range []int{-1 << 40, -1001, -1000, -1, 0, 1, 500, 999, 1000, 1001, 1 << 40} {
				compare(t, []api.Token{{Kind: kind, Text: s, N: n, C: n}})
				compare(t, []api.Token{{Kind: kind, Text: s, N: n, Whole: true}})
			}
		}
	}
}

func TestP702AllShortColors(t *testing.T) {
	signs := []string{"0", "9", "a", "f", "A", "F", "g", "G", "/", ":", "@", "`", "\u00e9", "\xff"}
	rows := []string{""}
	for range 4 {
		for _, s := range rows {
			compare(t, []api.Token{hash(s)})
		}
		var longer []string
		for _, s := range rows {
			for _, one := range signs {
				longer = append(longer, s+one)
			}
		}
		rows = longer
	}
}

func TestP702AllShortWords(t *testing.T) {
	signs := "axempPEMX%"
	for _, kind := range []int{api.TIdent, api.TDim} {
		for _, a := range signs {
			for _, b := range signs {
				compare(t, []api.Token{{Kind: kind, Text: string(a)}})
				compare(t, []api.Token{{Kind: kind, Text: string(a) + string(b), N: 7}})
				compare(t, []api.Token{{Kind: kind, Text: string(a) + string(b) + "x", N: 7}})
			}
		}
	}
}

// blocks tells a block of declarations, by chance.
func blocks(chance *rand.Rand) string {
	var out strings.Builder
	for range chance.Intn(12) {
		name := append(plainNames, "height", "Color", "--x")[chance.Intn(len(plainNames)+3)]
		one := plainTexts[chance.Intn(len(plainTexts))]
		switch chance.Intn(4) {
		case 0:
			one = "#" + one
		case 1:
			one = strconv.Itoa(chance.Intn(9)-4) + []string{"", ".5", ".0"}[chance.Intn(3)] + []string{"", "%", "px", "EM", "pt"}[chance.Intn(5)]
		}
		out.WriteString(name + ":" + one + []string{"", " ", "!important", " x"}[chance.Intn(4)] + ";")
	}
	return out.String()
}

// compareSets holds Sets against the plain one.
func compareSets(t *testing.T, s string) {
	t.Helper()
	l := decl.Parse(tokensOf(s))
	if got, want := Sets(l), plainSets(l); !slices.Equal(got, want) {
		t.Fatalf("P703: %q: %+v, want %+v", s, got, want)
	}
	for _, d := range l {
		compare(t, d.Value)
	}
}

func TestP703Blocks(t *testing.T) {
	chance := rand.New(rand.NewSource(7))
	for range 10_000 {
		compareSets(t, blocks(chance))
	}
}

func FuzzP703(f *testing.F) {
	f.Add("color:#f00;width:AUTO;z-index:-3!important")
	f.Add("margin:0;opacity:.5;font-size:2eM;text-align:center;display:none")
	f.Fuzz(func(t *testing.T, s string) {
		if len(s) < 500 {
			compareSets(t, s)
		}
	})
}
