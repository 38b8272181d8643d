package decl

import (
	"math/rand"
	"slices"
	"testing"

	"tapestrier/api"
)

// signs: one token of each part that the document's words tell apart.
var signs = []api.Token{
	{Kind: api.TIdent, Text: "A"},
	{Kind: api.TIdent, Text: "Important"},
	{Kind: api.TDelim, C: '!'},
	{Kind: api.TDelim, C: '?'},
	{Kind: api.TWhite},
	{Kind: api.TColon},
	{Kind: api.TSemi},
	{Kind: api.TAt, Text: "x"},
	{Kind: api.TOpen},
	{Kind: api.TClose},
	{Kind: api.TParen},
	{Kind: api.TFunc, Text: "important"},
	{Kind: api.TEnd},
	{Kind: api.TSquare},
	{Kind: api.TBack},
}

// thing is the document's word said plainly: one call in another for one thing in another. It tells the tokens of the first thing of t, and those behind it.
func thing(t []api.Token) (it, behind []api.Token) {
	own := map[int]int{api.TOpen: api.TClose, api.TParen: api.TEnd, api.TFunc: api.TEnd, api.TSquare: api.TBack}[t[0].Kind]
	rest := t[1:]
	for own != 0 && len(rest) > 0 {
		if rest[0].Kind == own {
			rest = rest[1:]
			break
		}
		_, rest = thing(rest)
	}
	return t[:len(t)-len(rest)], rest
}

// plainParse is P601 by things alone: all that is read is a row of things, parted where declarations and at-rules end.
func plainParse(t []api.Token) []api.Decl {
	var out []api.Decl
	var held []api.Token
	state := "between"
	for len(t) > 0 {
		it, behind := thing(t)
		t = behind
		kind := it[0].Kind
		switch {
		case state == "between" && (kind == api.TWhite || kind == api.TSemi):
		case state == "between" && kind == api.TAt:
			state = "at"
		case state == "at":
			if kind == api.TSemi || kind == api.TOpen {
				state = "between"
			}
		case kind == api.TSemi:
			out = append(out, plainDecl(held)...)
			held, state = nil, "between"
		default:
			held, state = append(held, it...), "declaration"
		}
	}
	return append(out, plainDecl(held)...)
}

// plainDecl tells the one declaration of these tokens, or none: it goes by the places of those that are not white.
func plainDecl(t []api.Token) []api.Decl {
	var places []int
	for i, one := range t {
		if one.Kind != api.TWhite {
			places = append(places, i)
		}
	}
	if len(places) < 2 || t[0].Kind != api.TIdent || t[places[1]].Kind != api.TColon {
		return nil
	}
	d := api.Decl{Name: plainLower(t[0].Text)}
	places = places[2:]
	if n := len(places); n > 1 {
		sign, word := t[places[n-2]], t[places[n-1]]
		if sign.Kind == api.TDelim && sign.C == '!' && word.Kind == api.TIdent && plainLower(word.Text) == "important" {
			d.Important = true
			places = places[:n-2]
		}
	}
	if n := len(places); n > 0 {
		d.Value = t[places[0] : places[n-1]+1]
	}
	return []api.Decl{d}
}

// plainLower is text.Lower of texts of bytes below 128.
func plainLower(s string) string {
	out := ""
	for _, r := range s {
		if r >= 'A' && r <= 'Z' {
			r += 32
		}
		out += string(r)
	}
	return out
}

func sameDecl(a, b api.Decl) bool {
	return a.Name == b.Name && a.Important == b.Important && slices.Equal(a.Value, b.Value)
}

// compare holds Parse of the tokens against the plain one.
func compare(t *testing.T, l []api.Token) {
	t.Helper()
	if got, want := Parse(l), plainParse(l); !slices.EqualFunc(got, want, sameDecl) {
		t.Fatalf("P601: Parse(%+v):\n%+v, want\n%+v", l, got, want)
	}
}

// marked tells the tokens, each told apart by its place.
func marked(l []api.Token) []api.Token {
	l = slices.Clone(l)
	for i := range l {
		l[i].N = i
	}
	return l
}

// compareAll holds Parse against the plain one at all rows that begin with these tokens and have up to n more.
func compareAll(t *testing.T, row []api.Token, n int) {
	t.Helper()
	compare(t, marked(row))
	if n == 0 {
		return
	}
	for _, one := range signs {
		compareAll(t, append(slices.Clip(row), one), n-1)
	}
}

func TestP601AllShortRows(t *testing.T) {
	for _, ahead := range []string{"", "a:", "a :b", "a: !", "a: !important", "a: b(! ", "@x", "@x(", ";a"} {
		compareAll(t, tokensOf(ahead), 4)
	}
}

func TestP601LongRows(t *testing.T) {
	chance := rand.New(rand.NewSource(6))
	for range 50_000 {
		row := make([]api.Token, 5+chance.Intn(40))
		some := 3 + chance.Intn(len(signs)-2)
		order := chance.Perm(len(signs))
		for i := range row {
			row[i] = signs[order[chance.Intn(some)]]
		}
		compare(t, marked(row))
		compare(t, marked(append(tokensOf("a: "), row...)))
	}
}

func FuzzP601(f *testing.F) {
	f.Add("Color : red !important")
	f.Add("a:b;;c : d ; e;@x{};f:(;)!IMPORTANT")
	f.Fuzz(func(t *testing.T, s string) {
		for _, c := range []byte(s) {
			if c >= 128 {
				return
			}
		}
		if len(s) < 500 {
			compare(t, tokensOf(s))
		}
	})
}
