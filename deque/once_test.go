package deque

import (
	"math/rand"
	"testing"

	"tapestrier/api"
)

// book notes which numbers were pushed, and which were taken, a bit a number.
type book struct {
	pushed, taken uint64
	pushes        int // how many pushes were begun: the next one's number
}

// note notes what a step told.
func (b *book) note(t *testing.T, push bool, x int, ok bool) {
	t.Helper()
	bit := uint64(1) << x
	switch {
	case !ok:
	case push && b.pushed&bit != 0:
		t.Fatalf("P2003: %d was pushed twice", x)
	case push:
		b.pushed |= bit
	case b.pushed&bit == 0:
		t.Fatalf("P2003: %d was taken, and not pushed", x)
	case b.taken&bit != 0:
		t.Fatalf("P2003: %d was taken twice", x)
	default:
		b.taken |= bit
	}
}

func ones(bits uint64) int {
	n := 0
	for ; bits != 0; bits &= bits - 1 {
		n++
	}
	return n
}

// left is how many were pushed and not taken.
func (b *book) left() int {
	return ones(b.pushed) - ones(b.taken)
}

// state is all that what follows hangs on, of a deque of two places, its owner and two thieves.
type state struct {
	cells  [places + 2]int
	going  [3]operation
	book   book
	begun  int
	steals [2]int
}

// search goes through all orders of steps.
type search struct {
	t    *testing.T
	seen map[state]bool
}

// visit asks what holds in a state, and goes on from it in all ways.
func (s *search) visit(d *Deque, b book, begun int, steals [2]int) {
	now := state{[places + 2]int(d.cells.all[:]), [3]operation(d.going[:]), b, begun, steals}
	if s.seen[now] {
		return
	}
	s.seen[now] = true
	if !d.Busy(0) && !d.Busy(1) && !d.Busy(2) && d.Len() != b.left() {
		s.t.Fatalf("P2003: Len: %d, want %d", d.Len(), b.left())
	}
	for who := 1; who < 3; who++ {
		if d.Busy(who) {
			s.goOn(d, who, b, begun, steals)
		} else if steals[who-1] < 2 {
			more := steals
			more[who-1]++
			s.begin(d, who, api.OSteal, 0, b, begun, more)
		}
	}
	if d.Busy(0) {
		s.goOn(d, 0, b, begun, steals)
	} else if begun < 6 {
		s.begin(d, 0, api.OPop, 0, b, begun+1, steals)
		more := b
		more.pushes++
		s.begin(d, 0, api.OPush, b.pushes, more, begun+1, steals)
	}
}

func (s *search) begin(d *Deque, who, kind, x int, b book, begun int, steals [2]int) {
	copied := *d
	if e := copied.Begin(who, kind, x); e != api.OK {
		s.t.Fatalf("P2001: Begin: %v", e)
	}
	s.visit(&copied, b, begun, steals)
}

func (s *search) goOn(d *Deque, who int, b book, begun int, steals [2]int) {
	copied := *d
	push := d.going[who].kind == api.OPush
	_, x, ok := copied.Step(who)
	b.note(s.t, push, x, ok)
	s.visit(&copied, b, begun, steals)
}

// TestP2003AllOrders: whatever six operations the owner does, and whenever two thieves come twice each.
func TestP2003AllOrders(t *testing.T) {
	for size := 1; size < 3; size++ {
		s := search{t, map[state]bool{}}
		s.visit(New(size), book{}, 0, [2]int{})
		if len(s.seen) < 10000 {
			t.Errorf("P2003: only %d states", len(s.seen))
		}
	}
}

// TestP2003ByChance: more thieves, and many more steps; in the end what is left is taken.
func TestP2003ByChance(t *testing.T) {
	chance := rand.New(rand.NewSource(20))
	for range 2000 {
		d, b := New(1+chance.Intn(6)), book{}
		for b.pushes < 60 {
			who := chance.Intn(6)
			if !d.Busy(who) {
				b.beginSome(d, who, chance)
			}
			b.step(t, d, who)
		}
		for who := range 6 {
			for d.Busy(who) {
				b.step(t, d, who)
			}
		}
		wantLen(t, d, b.left())
		for range b.left() {
			begin(t, d, 1, api.OSteal, 0)
			for d.Busy(1) {
				b.step(t, d, 1)
			}
		}
		wantLen(t, d, 0)
		if b.pushed != b.taken {
			t.Fatalf("P2003: pushed %x, taken %x", b.pushed, b.taken)
		}
	}
}

func (b *book) beginSome(d *Deque, who int, chance *rand.Rand) {
	switch {
	case who > 0:
		d.Begin(who, api.OSteal, 0)
	case chance.Intn(3) == 0:
		d.Begin(who, api.OPop, 0)
	default:
		d.Begin(who, api.OPush, b.pushes)
		b.pushes++
	}
}

func (b *book) step(t *testing.T, d *Deque, who int) {
	t.Helper()
	push := d.going[who].kind == api.OPush
	_, x, ok := d.Step(who)
	b.note(t, push, x, ok)
}
