package rules

import (
	"math/rand"
	"slices"
	"testing"

	"tapestrier/api"
)

// kinds: one token kind of each part that the document's words tell apart.
var kinds = []int{api.TIdent, api.TWhite, api.TAt, api.TSemi, api.TOpen, api.TClose, api.TParen, api.TEnd, api.TSquare, api.TBack, api.TFunc}

// thing is the document's word said plainly: one call in another for one thing in another. It tells the tokens of the first thing of t, and those behind it.
func thing(t []api.Token) (it, behind []api.Token, closed bool) {
	own := map[int]int{api.TOpen: api.TClose, api.TParen: api.TEnd, api.TFunc: api.TEnd, api.TSquare: api.TBack}[t[0].Kind]
	rest := t[1:]
	for own != 0 && len(rest) > 0 {
		if rest[0].Kind == own {
			rest = rest[1:]
			closed = true
			break
		}
		_, rest, _ = thing(rest)
	}
	return t[:len(t)-len(rest)], rest, closed
}

// plainParse is P502 by things alone: all that is read is a row of things, parted where rules and at-rules end.
func plainParse(t []api.Token) []api.Raw {
	var out []api.Raw
	var prelude []api.Token
	state := "between"
	for len(t) > 0 {
		it, behind, closed := thing(t)
		t = behind
		kind := it[0].Kind
		if state == "between" && kind == api.TWhite {
			continue
		}
		if state == "between" && kind == api.TAt {
			state = "at"
			continue
		}
		if state == "at" {
			if kind == api.TSemi || kind == api.TOpen {
				state = "between"
			}
			continue
		}
		state = "rule"
		if kind != api.TOpen {
			prelude = append(prelude, it...)
			continue
		}
		block := it[1:]
		if closed {
			block = block[:len(block)-1]
		}
		out = append(out, api.Raw{Prelude: prelude, Block: block})
		prelude, state = nil, "between"
	}
	return out
}

// compare holds Skip and Parse of the tokens against the plain ones.
func compare(t *testing.T, l []api.Token) {
	t.Helper()
	for i := range l {
		it, _, _ := thing(l[i:])
		if got := Skip(l, i); got != i+len(it) {
			t.Fatalf("P501: Skip(%+v, %d): %d, want %d", l, i, got, i+len(it))
		}
	}
	same := slices.EqualFunc(Parse(l), plainParse(l), func(a, b api.Raw) bool {
		return slices.Equal(a.Prelude, b.Prelude) && slices.Equal(a.Block, b.Block)
	})
	if !same {
		t.Fatalf("P502: Parse(%+v):\n%+v, want\n%+v", l, Parse(l), plainParse(l))
	}
}

// of makes tokens of these kinds, each told apart by its place.
func of(row []int) []api.Token {
	l := make([]api.Token, len(row))
	for i, kind := range row {
		l[i] = api.Token{Kind: kind, N: i}
	}
	return l
}

func TestP501P502AllShortRows(t *testing.T) {
	const longest = 5
	var row []int
	var more func()
	more = func() {
		compare(t, of(row))
		if len(row) == longest {
			return
		}
		for _, kind := range kinds {
			row = append(row, kind)
			more()
			row = row[:len(row)-1]
		}
	}
	more()
}

func TestP501P502LongRows(t *testing.T) {
	chance := rand.New(rand.NewSource(5))
	for range 20_000 {
		row := make([]int, 6+chance.Intn(40))
		some := 3 + chance.Intn(len(kinds)-2)
		order := chance.Perm(len(kinds))
		for i := range row {
			row[i] = kinds[order[chance.Intn(some)]]
		}
		compare(t, of(row))
	}
}

func FuzzP501P502(f *testing.F) {
	f.Add("a { b }")
	f.Add("a{(}b{c}@x{};d{[]}")
	f.Fuzz(func(t *testing.T, s string) {
		if len(s) < 500 {
			compare(t, tokensOf(s))
		}
	})
}
