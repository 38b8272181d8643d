package tok

import (
	"math/rand/v2"
	"regexp"
	"slices"
	"strconv"
	"strings"
	"testing"

	"tapestrier/api"
	"tapestrier/num"
	"tapestrier/text"
)

// The document's words as patterns: they know nothing of the package's reader.
const (
	escapeOf = `\\(?:[0-9a-fA-F]{1,6}[\t\n ]?|[^\n0-9a-fA-F])`
	startOf  = `(?:[A-Za-z_\x{80}-\x{10ffff}]|` + escapeOf + `)`
	pointOf  = `(?:[A-Za-z0-9_\-\x{80}-\x{10ffff}]|` + escapeOf + `)`
	nameOf   = `(?:-` + startOf + `|--|` + startOf + `)` + pointOf + `*`
	numberOf = `[+-]?(?:[0-9]+(?:\.[0-9]+)?|\.[0-9]+)`
)

// pattern is one row of the document's list: what fits, and its token; the first that fits is taken.
type pattern struct {
	fits  *regexp.Regexp
	token func(parts []string) []api.Token
}

func row(fits string, token func(parts []string) []api.Token) pattern {
	return pattern{regexp.MustCompile(`^(?s:` + fits + `)`), token}
}

// named makes the token of a kind whose name is the first part.
func named(kind int) func([]string) []api.Token {
	return func(parts []string) []api.Token {
		return []api.Token{{Kind: kind, Text: unescaped(parts[1])}}
	}
}

// numbered makes the token of a kind whose number is the first part, and whose unit the second, if there is one.
func numbered(kind int) func([]string) []api.Token {
	return func(parts []string) []api.Token {
		n, _ := num.Of(parts[1])
		t := api.Token{Kind: kind, N: n}
		if kind == api.TNumber {
			t.Whole = !strings.Contains(parts[1], ".")
		}
		if kind == api.TDim {
			t.Text = unescaped(parts[2])
		}
		return []api.Token{t}
	}
}

func one(parts []string) []api.Token {
	const signs = ":;,{}()[]"
	if i := strings.Index(signs, parts[0]); i >= 0 {
		kinds := []int{api.TColon, api.TSemi, api.TComma, api.TOpen, api.TClose, api.TParen, api.TEnd, api.TSquare, api.TBack}
		return []api.Token{{Kind: kinds[i]}}
	}
	return []api.Token{{Kind: api.TDelim, C: int([]rune(parts[0])[0])}}
}

func none([]string) []api.Token { return nil }

func patterns() []pattern {
	rows := []pattern{
		row(`/\*.*?(?:\*/|\z)`, none),
		row(`[\t\n ]+`, func([]string) []api.Token { return []api.Token{{Kind: api.TWhite}} }),
	}
	for _, sign := range []string{`"`, `'`} {
		held := sign + `((?:[^` + sign + `\\\n]|\\\n|` + escapeOf + `)*)`
		rows = append(rows,
			row(held+`(?:`+sign+`|\\?\z)`, named(api.TString)),
			row(held, func([]string) []api.Token { return []api.Token{{Kind: api.TBad}} }))
	}
	return append(rows,
		row(`#(`+pointOf+`+)`, named(api.THash)),
		row(`(`+numberOf+`)(`+nameOf+`)`, numbered(api.TDim)),
		row(`(`+numberOf+`)%`, numbered(api.TPercent)),
		row(`(`+numberOf+`)`, numbered(api.TNumber)),
		row(`@(`+nameOf+`)`, named(api.TAt)),
		row(`(`+nameOf+`)\(`, named(api.TFunc)),
		row(`(`+nameOf+`)`, named(api.TIdent)),
		row(`.`, one),
	)
}

var escapes = regexp.MustCompile(`(?s)\\([0-9a-fA-F]{1,6})[\t\n ]?|\\(.?)`)

// unescaped puts the code points of escapes in their stead.
func unescaped(s string) string {
	return escapes.ReplaceAllStringFunc(s, func(e string) string {
		parts := escapes.FindStringSubmatch(e)
		if parts[1] == "" {
			return strings.TrimPrefix(parts[2], "\n")
		}
		n, _ := strconv.ParseUint(parts[1], 16, 64)
		if n == 0 {
			n = 65533
		}
		return string(text.Bytes([]int{int(n)}))
	})
}

// reference tells the tokens of s by the patterns.
func reference(rows []pattern, s string) []api.Token {
	var out []api.Token
next:
	for s != "" {
		for _, r := range rows {
			if parts := r.fits.FindStringSubmatch(s); parts != nil {
				out = append(out, r.token(parts)...)
				s = s[len(parts[0]):]
				continue next
			}
		}
		panic("nothing fits")
	}
	return out
}

// same asks for the tokens of s by the patterns.
func same(t *testing.T, rows []pattern, s string) {
	t.Helper()
	prepared := text.Prepare([]byte(s))
	want := reference(rows, string(text.Bytes(prepared)))
	if got := Tokens(prepared); !slices.Equal(got, want) {
		t.Errorf("P401: %q:\n%+v, want\n%+v", s, got, want)
	}
}

// letters are one of each kind of code point that the document tells apart.
var letters = []string{"a", "g", "4", "0", "-", "+", ".", "%", "\\", "\n", " ", "\"", "'", "#", "@", "(", "/", "*", "é", "!"}

// All short texts of these letters.
func TestP401AgainstPatternsShort(t *testing.T) {
	rows := patterns()
	var all func(s string, more int)
	all = func(s string, more int) {
		same(t, rows, s)
		if more == 0 || t.Failed() {
			return
		}
		for _, l := range letters {
			all(s+l, more-1)
		}
	}
	all("", 4)
}

// Longer ones, of each length some, the same at each run.
func TestP401AgainstPatternsLong(t *testing.T) {
	rows := patterns()
	r := rand.New(rand.NewPCG(4, 401))
	more := append(slices.Clone(letters), "{", "}", ")", "[", "]", ":", ";", ",", "/*", "*/", "\\\n", "\\41", "\\d800", "\\110000", "\\0", "1.5", "--", "\\\"", "\t", "_", "Z", "\x7f")
	for n := range 20000 {
		var s strings.Builder
		for range 5 + n%40 {
			s.WriteString(more[r.IntN(len(more))])
		}
		same(t, rows, s.String())
		if t.Failed() {
			return
		}
	}
}

func FuzzP401(f *testing.F) {
	for _, s := range []string{"a:1.5em", "/* x */ @b \"c\\\nd\\41 e", "'f\n#g--\\110000 1e+3% -.5", "\\", "<!-- -->"} {
		f.Add([]byte(s))
	}
	rows := patterns()
	f.Fuzz(func(t *testing.T, b []byte) {
		same(t, rows, string(b))
		l := Tokens(text.Points(b))
		if Text(l) != Text(l) || (len(l) == 0 && Text(l) != "") {
			t.Error("P402: two texts")
		}
	})
}
