package deque

import (
	"iter"
	"math/rand"
	"testing"

	"tapestrier/api"
)

// plain is a deque in the chapter's words: its operations are written from above to below, and wait behind each access.
type plain struct {
	size, top, bottom int
	places            map[int]int
	going             map[int]waiting
	last              api.Access
}

// waiting is an operation that goes on: what does its next step, and what leaves it.
type waiting struct {
	next func() (outcome, bool)
	stop func()
}

func newPlain(size int) *plain {
	return &plain{size: size, places: map[int]int{}, going: map[int]waiting{}}
}

func (p *plain) begin(who, kind, x int) api.Errno {
	_, busy := p.going[who]
	if who < 0 || who > 64 || busy {
		return api.ErrArg
	}
	var steps iter.Seq[outcome]
	switch {
	case kind == api.OPush && who == 0:
		steps = p.push(x)
	case kind == api.OPop && who == 0:
		steps = p.pop()
	case kind == api.OSteal && who > 0:
		steps = p.steal()
	default:
		return api.ErrArg
	}
	next, stop := iter.Pull(steps)
	p.going[who] = waiting{next, stop}
	return api.OK
}

func (p *plain) step(who int) outcome {
	w, busy := p.going[who]
	if !busy {
		return outcome{}
	}
	told, _ := w.next()
	p.last.Who = who
	if told.ended {
		w.stop()
		delete(p.going, who)
	}
	return told
}

// leave leaves all that goes on.
func (p *plain) leave() {
	for _, w := range p.going {
		w.stop()
	}
}

func (p *plain) length() int {
	if p.bottom < p.top {
		return 0
	}
	return p.bottom - p.top
}

func (p *plain) reads(cell int) {
	p.last = api.Access{Cell: cell, Atomic: true}
}

func (p *plain) writes(cell int) {
	p.last = api.Access{Cell: cell, Write: true, Atomic: true}
}

func (p *plain) push(x int) iter.Seq[outcome] {
	return func(yield func(outcome) bool) {
		p.reads(cellBottom)
		b := p.bottom
		if !yield(outcome{}) {
			return
		}
		p.reads(cellTop)
		if b-p.top == p.size {
			yield(outcome{ended: true})
			return
		}
		if !yield(outcome{}) {
			return
		}
		p.writes(cellPlace(b % p.size))
		p.places[b%p.size] = x
		if !yield(outcome{}) {
			return
		}
		p.writes(cellBottom)
		p.bottom = b + 1
		yield(outcome{true, x, true})
	}
}

func (p *plain) pop() iter.Seq[outcome] {
	return func(yield func(outcome) bool) {
		p.reads(cellBottom)
		b := p.bottom - 1
		if !yield(outcome{}) {
			return
		}
		p.writes(cellBottom)
		p.bottom = b
		if !yield(outcome{}) {
			return
		}
		p.reads(cellTop)
		t := p.top
		if !yield(outcome{}) {
			return
		}
		told := outcome{ended: true}
		if t <= b {
			p.reads(cellPlace(b % p.size))
			x := p.places[b%p.size]
			if t < b {
				yield(outcome{true, x, true})
				return
			}
			if !yield(outcome{}) {
				return
			}
			p.writes(cellTop)
			if p.top == t {
				p.top = t + 1
				told = outcome{true, x, true}
			}
			if !yield(outcome{}) {
				return
			}
		}
		p.writes(cellBottom)
		p.bottom = b + 1
		yield(told)
	}
}

func (p *plain) steal() iter.Seq[outcome] {
	return func(yield func(outcome) bool) {
		p.reads(cellTop)
		t := p.top
		if !yield(outcome{}) {
			return
		}
		p.reads(cellBottom)
		if t >= p.bottom {
			yield(outcome{ended: true})
			return
		}
		if !yield(outcome{}) {
			return
		}
		p.reads(cellPlace(t % p.size))
		x := p.places[t%p.size]
		if !yield(outcome{}) {
			return
		}
		p.writes(cellTop)
		if p.top != t {
			yield(outcome{ended: true})
			return
		}
		p.top = t + 1
		yield(outcome{true, x, true})
	}
}

// pair is a deque and its plain one, which are told the same.
type pair struct {
	d *Deque
	p *plain
}

func newPair(size int) pair {
	return pair{New(size), newPlain(size)}
}

func (x pair) begin(t *testing.T, who, kind, n int) {
	t.Helper()
	if e, want := x.d.Begin(who, kind, n), x.p.begin(who, kind, n); e != want {
		t.Fatalf("P2001: Begin(%d, %d, %d): %v, want %v", who, kind, n, e, want)
	}
}

// step does a step of who, and compares all that is told of it.
func (x pair) step(t *testing.T, who int) {
	t.Helper()
	ended, n, ok := x.d.Step(who)
	if told, want := (outcome{ended, n, ok}), x.p.step(who); told != want {
		t.Fatalf("P2001: Step(%d): %v, want %v", who, told, want)
	}
	if _, want := x.p.going[who]; x.d.Busy(who) != want {
		t.Fatalf("P2001: Busy(%d): %v, want %v", who, x.d.Busy(who), want)
	}
	if last, want := x.d.Last(), x.p.last; last != want {
		t.Fatalf("P2002: Last: %v, want %v", last, want)
	}
	if n, want := x.d.Len(), x.p.length(); n != want {
		t.Fatalf("P2002: Len: %d, want %d", n, want)
	}
}

// TestP2001AllShort: all rows of so many steps of the owner and two thieves, behind a push.
// Each digit of a row says who goes on; if nothing of that one does, a push, a pop or a steal begins.
func TestP2001AllShort(t *testing.T) {
	const choices, steps = 4, 8
	rows := 1
	for range steps {
		rows *= choices
	}
	for size := 1; size < 3; size++ {
		for row := range rows {
			x := newPair(size)
			x.begin(t, 0, api.OPush, -5)
			for range 4 {
				x.step(t, 0)
			}
			for n := range steps {
				x.choose(t, row%choices, n)
				row /= choices
			}
			x.p.leave()
		}
	}
}

// choose does the step that a digit stands for: 0 is a push of the owner, 1 a pop, 2 and 3 are two thieves.
func (x pair) choose(t *testing.T, digit, n int) {
	t.Helper()
	who, kind := 0, api.OPush
	switch digit {
	case 1:
		kind = api.OPop
	case 2, 3:
		who, kind = digit, api.OSteal
	}
	if !x.d.Busy(who) {
		x.begin(t, who, kind, n)
	}
	x.step(t, who)
}

func TestP2001ByChance(t *testing.T) {
	chance := rand.New(rand.NewSource(2001))
	for round := range 300 {
		x := newPair(1 + chance.Intn(5))
		thieves := 1 + chance.Intn(4)
		for n := range 5 * round {
			if chance.Intn(8) == 0 {
				x.begin(t, chance.Intn(67)-1, chance.Intn(5), n)
			}
			x.choose(t, chance.Intn(2+thieves), n)
			x.step(t, chance.Intn(67)-1)
		}
		x.p.leave()
	}
}

// TestP2003Apart: deques that are told things by turns tell what each was told alone.
func TestP2003Apart(t *testing.T) {
	chance := rand.New(rand.NewSource(2003))
	for range 50 {
		pairs := []pair{newPair(1), newPair(2), newPair(3), newPair(3)}
		for n := range 800 {
			pairs[chance.Intn(len(pairs))].choose(t, chance.Intn(4), n)
		}
		for _, x := range pairs {
			x.p.leave()
		}
	}
}
