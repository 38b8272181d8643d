package store

import (
	"math/rand"
	"slices"
	"testing"

	"tapestrier/api"
)

// plain is a store in the chapter's words: of each number that was given its style and its count.
type plain struct {
	styles []api.Style
	counts []int
}

func (p *plain) add(x api.Style) int {
	p.styles = append(p.styles, x)
	p.counts = append(p.counts, 1)
	return len(p.counts) - 1
}

func (p *plain) there(i int) bool {
	return i >= 0 && i < len(p.counts) && p.counts[i] > 0
}

func (p *plain) turn(i, by int) api.Errno {
	if !p.there(i) {
		return api.ErrNone
	}
	p.counts[i] += by
	return api.OK
}

func (p *plain) get(i int) (api.Style, api.Errno) {
	if !p.there(i) {
		return api.Style{}, api.ErrNone
	}
	return p.styles[i], api.OK
}

func (p *plain) count(i int) int {
	if !p.there(i) {
		return 0
	}
	return p.counts[i]
}

func (p *plain) live() int {
	n := 0
	for _, c := range p.counts {
		if c > 0 {
			n++
		}
	}
	return n
}

// pair is a store and its plain one, which are told the same.
type pair struct {
	s *Store
	p *plain
}

func newPair() pair {
	return pair{&Store{}, &plain{}}
}

// copied makes a pair of copies.
func (x pair) copied() pair {
	s := *x.s
	return pair{&s, &plain{slices.Clone(x.p.styles), slices.Clone(x.p.counts)}}
}

func (x pair) add(t *testing.T, style api.Style) {
	t.Helper()
	if i, want := x.s.New(style), x.p.add(style); i != want {
		t.Fatalf("P1901: New: %d, want %d", i, want)
	}
}

func (x pair) hold(t *testing.T, i int) {
	t.Helper()
	if e, want := x.s.Hold(i), x.p.turn(i, 1); e != want {
		t.Fatalf("P1901: Hold(%d): %v, want %v", i, e, want)
	}
}

func (x pair) release(t *testing.T, i int) {
	t.Helper()
	if e, want := x.s.Release(i), x.p.turn(i, -1); e != want {
		t.Fatalf("P1901: Release(%d): %v, want %v", i, e, want)
	}
}

// compare asks of each number that was given, and of some that were not.
func (x pair) compare(t *testing.T) {
	t.Helper()
	for i := -2; i < len(x.p.counts)+3; i++ {
		style, e := x.s.Get(i)
		want, none := x.p.get(i)
		if style != want || e != none {
			t.Fatalf("P1901: Get(%d): %v, %v, want %v, %v", i, style, e, want, none)
		}
		if n, want := x.s.Count(i), x.p.count(i); n != want {
			t.Fatalf("P1901: Count(%d): %d, want %d", i, n, want)
		}
	}
	if n, want := x.s.Live(), x.p.live(); n != want {
		t.Fatalf("P1901: Live: %d, want %d", n, want)
	}
}

// TestP1901AllShort: all rows of six calls, with three numbers.
func TestP1901AllShort(t *testing.T) {
	const kinds, calls = 7, 6
	rows := 1
	for range calls {
		rows *= kinds
	}
	for row := range rows {
		x := newPair()
		for n := range calls {
			call := row % kinds
			row /= kinds
			switch {
			case call == 0:
				x.add(t, api.Style{n, 5})
			case call < 4:
				x.hold(t, call-1)
			default:
				x.release(t, call-4)
			}
		}
		x.compare(t)
	}
}

// oneCall tells x something by chance.
func (x pair) oneCall(t *testing.T, chance *rand.Rand) {
	t.Helper()
	i := chance.Intn(len(x.p.counts)+4) - 2
	switch chance.Intn(7) {
	case 0, 1:
		x.add(t, api.Style{chance.Intn(3), chance.Int()})
	case 2, 3:
		x.hold(t, i)
	default:
		x.release(t, i)
	}
}

func TestP1901ByChance(t *testing.T) {
	chance := rand.New(rand.NewSource(1901))
	for round := range 300 {
		x := newPair()
		for range 3 * round {
			x.oneCall(t, chance)
		}
		x.compare(t)
	}
}

// TestP1902Apart: stores that are told things by turns, copies too, tell what each was told alone.
func TestP1902Apart(t *testing.T) {
	chance := rand.New(rand.NewSource(1902))
	for range 100 {
		pairs := []pair{newPair(), newPair()}
		for range 600 {
			x := pairs[chance.Intn(len(pairs))]
			if chance.Intn(30) == 0 && len(pairs) < 10 {
				pairs = append(pairs, x.copied())
			}
			x.oneCall(t, chance)
		}
		for _, x := range pairs {
			x.compare(t)
		}
	}
}

// TestP1902SameTold: two stores that are told the same tell the same.
func TestP1902SameTold(t *testing.T) {
	chance := rand.New(rand.NewSource(19))
	var a, b Store
	for range 3000 {
		i := chance.Intn(200)
		switch chance.Intn(4) {
		case 0:
			x := api.Style{chance.Int()}
			if n, m := a.New(x), b.New(x); n != m {
				t.Fatalf("P1902: New: %d and %d", n, m)
			}
		case 1:
			if e, f := a.Hold(i), b.Hold(i); e != f {
				t.Fatalf("P1902: Hold(%d): %v and %v", i, e, f)
			}
		default:
			if e, f := a.Release(i), b.Release(i); e != f {
				t.Fatalf("P1902: Release(%d): %v and %v", i, e, f)
			}
		}
		x, e := a.Get(i)
		y, f := b.Get(i)
		if x != y || e != f || a.Count(i) != b.Count(i) || a.Live() != b.Live() {
			t.Fatalf("P1902: %d: %v, %v and %v, %v", i, x, e, y, f)
		}
	}
}
