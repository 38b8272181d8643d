package deque

import (
	"math/rand"
	"testing"

	"tapestrier/api"
)

const (
	cellTop    = -1000
	cellBottom = -1001
)

// cellPlace is the cell of place i.
func cellPlace(i int) int {
	return -1002 - i
}

// wantAccesses begins an operation, and asks behind each of its steps for the access.
func wantAccesses(t *testing.T, d *Deque, who, kind int, cells []int, writes []bool) {
	t.Helper()
	begin(t, d, who, kind, 5)
	for i, cell := range cells {
		d.Step(who)
		for range 2 {
			wantLast(t, d, api.Access{Who: who, Cell: cell, Write: writes[i], Atomic: true})
		}
	}
	if d.Busy(who) {
		t.Errorf("P2002: %d goes on", who)
	}
}

// TestP2002Accesses: each step's access, in operations that nobody comes between.
func TestP2002Accesses(t *testing.T) {
	d := New(2)
	for _, r := range []struct {
		what      string
		who, kind int
		cells     []int
		writes    []bool
	}{
		{"a pop of none", 0, api.OPop, []int{cellBottom, cellBottom, cellTop, cellBottom}, []bool{false, true, false, true}},
		{"a steal of none", 7, api.OSteal, []int{cellTop, cellBottom}, []bool{false, false}},
		{"a push", 0, api.OPush, []int{cellBottom, cellTop, cellPlace(0), cellBottom}, []bool{false, false, true, true}},
		{"a second push", 0, api.OPush, []int{cellBottom, cellTop, cellPlace(1), cellBottom}, []bool{false, false, true, true}},
		{"a push too many", 0, api.OPush, []int{cellBottom, cellTop}, []bool{false, false}},
		{"a pop", 0, api.OPop, []int{cellBottom, cellBottom, cellTop, cellPlace(1)}, []bool{false, true, false, false}},
		{"the pop of the last one", 0, api.OPop, []int{cellBottom, cellBottom, cellTop, cellPlace(0), cellTop, cellBottom}, []bool{false, true, false, false, true, true}},
		{"a push in the next place", 0, api.OPush, []int{cellBottom, cellTop, cellPlace(1), cellBottom}, []bool{false, false, true, true}},
		{"a push in the first place again", 0, api.OPush, []int{cellBottom, cellTop, cellPlace(0), cellBottom}, []bool{false, false, true, true}},
		{"a steal", 64, api.OSteal, []int{cellTop, cellBottom, cellPlace(1), cellTop}, []bool{false, false, false, true}},
		{"another steal", 1, api.OSteal, []int{cellTop, cellBottom, cellPlace(0), cellTop}, []bool{false, false, false, true}},
	} {
		t.Run(r.what, func(t *testing.T) {
			wantAccesses(t, d, r.who, r.kind, r.cells, r.writes)
		})
	}
}

// TestP2002WriteThatIsNone: what would write top tells that it wrote, also if it did not.
func TestP2002WriteThatIsNone(t *testing.T) {
	d := New(2)
	wantPush(t, d, 5)
	for who := 1; who < 3; who++ {
		begin(t, d, who, api.OSteal, 0)
		wantSteps(t, d, who, 3)
	}
	begin(t, d, 0, api.OPop, 0)
	wantSteps(t, d, 0, 4)
	for _, who := range []int{2, 1, 0} {
		d.Step(who)
		wantLast(t, d, api.Access{Who: who, Cell: cellTop, Write: true, Atomic: true})
	}
}

// TestP2002LastStays: what does no access leaves the last one.
func TestP2002LastStays(t *testing.T) {
	d := New(2)
	begin(t, d, 0, api.OPush, 5)
	wantSteps(t, d, 0, 3)
	last := api.Access{Who: 0, Cell: cellPlace(0), Write: true, Atomic: true}
	begin(t, d, 4, api.OSteal, 0)
	wantRefused(t, d, 4, api.OSteal)
	for _, who := range append(strangers(), 1, 5, 64) {
		d.Step(who)
		wantLast(t, d, last)
	}
	d.Len()
	d.Busy(0)
	wantLast(t, d, last)
}

// TestP2002PlacesGoRound: each place is one of the size's, in turn.
func TestP2002PlacesGoRound(t *testing.T) {
	for _, size := range []int{1, 2, 3, 16, 1024} {
		d := New(size)
		for i := range 3*size + 1 {
			begin(t, d, 0, api.OPush, i)
			wantSteps(t, d, 0, 3)
			wantLast(t, d, api.Access{Cell: cellPlace(i % size), Write: true, Atomic: true})
			wantEnd(t, d, 0, i, true)
			begin(t, d, 2, api.OSteal, 0)
			wantSteps(t, d, 2, 3)
			wantLast(t, d, api.Access{Who: 2, Cell: cellPlace(i % size), Atomic: true})
			wantEnd(t, d, 2, i, true)
		}
	}
}

// TestP2002Len: it is told of the two numbers as they stand, amid an operation too.
func TestP2002Len(t *testing.T) {
	d := New(2)
	for _, r := range []struct{ who, kind, ahead, amid, behind int }{
		{0, api.OPop, 0, 0, 0},
		{1, api.OSteal, 0, 0, 0},
		{0, api.OPush, 0, 0, 1},
		{0, api.OPush, 1, 1, 2},
		{0, api.OPush, 2, 2, 2},
		{0, api.OPop, 2, 1, 1},
		{0, api.OPush, 1, 1, 2},
		{1, api.OSteal, 2, 2, 1},
		{0, api.OPop, 1, 0, 0},
	} {
		wantLen(t, d, r.ahead)
		begin(t, d, r.who, r.kind, 5)
		d.Step(r.who)
		wantLen(t, d, r.ahead)
		d.Step(r.who)
		wantLen(t, d, r.amid)
		for d.Busy(r.who) {
			d.Step(r.who)
		}
		wantLen(t, d, r.behind)
	}
}

// TestP2002LenBelow: while a pop of none goes on, bottom is below top.
func TestP2002LenBelow(t *testing.T) {
	d := New(3)
	for range 4 {
		begin(t, d, 0, api.OPop, 0)
		for range 3 {
			wantSteps(t, d, 0, 1)
			wantLen(t, d, 0)
		}
		wantEnd(t, d, 0, 0, false)
		wantPush(t, d, 1)
		want(t, d, 5, api.OSteal, 0, 4, 1, true)
	}
}

// story tells a deque things by chance, and notes all that it answers.
func story(d *Deque, seed int64) []any {
	chance := rand.New(rand.NewSource(seed))
	var told []any
	for i := range 400 {
		who := chance.Intn(5) - 1
		e := d.Begin(who, chance.Intn(5), i)
		ended, x, ok := d.Step(chance.Intn(6) - 1)
		told = append(told, e, ended, x, ok, d.Busy(who), d.Len(), d.Last())
	}
	return told
}

// wantSame holds two stories against each other.
func wantSame(t *testing.T, a, b []any) {
	t.Helper()
	for i := range a {
		if a[i] != b[i] {
			t.Fatalf("P2003: %d: %v and %v", i, a[i], b[i])
		}
	}
}

func TestP2003SameTold(t *testing.T) {
	for seed := range int64(40) {
		wantSame(t, story(New(int(seed%5)), seed), story(New(int(seed%5)), seed))
	}
}

func TestP2003TwoDeques(t *testing.T) {
	a, b := New(2), New(2)
	wantPush(t, a, 1, 2)
	wantLen(t, b, 0)
	wantLast(t, b, api.Access{})
	begin(t, a, 3, api.OSteal, 0)
	if b.Busy(3) {
		t.Error("P2003: Busy in the other deque")
	}
	want(t, b, 3, api.OSteal, 0, 2, 0, false)
	wantPush(t, b, 7)
	wantSteps(t, a, 3, 3)
	want(t, b, 3, api.OSteal, 0, 4, 7, true)
	wantEnd(t, a, 3, 1, true)
	wantLen(t, a, 1)
	wantLen(t, b, 0)
}

// TestP2003CopiedDeque: a copy goes on from where the deque stood, and what either does is not seen in the other.
func TestP2003CopiedDeque(t *testing.T) {
	a := New(2)
	wantPush(t, a, 1, 2)
	begin(t, a, 3, api.OSteal, 0)
	wantSteps(t, a, 3, 2)
	begin(t, a, 0, api.OPop, 0)
	wantSteps(t, a, 0, 3)
	b := *a
	last := a.Last()
	wantEnd(t, a, 0, 2, true)
	wantPush(t, a, 9)
	wantSteps(t, a, 3, 1)
	wantEnd(t, a, 3, 1, true)

	wantLast(t, &b, last)
	wantLen(t, &b, 1)
	wantEnd(t, &b, 0, 2, true)
	wantPush(t, &b, 8)
	wantSteps(t, &b, 3, 1)
	wantEnd(t, &b, 3, 1, true)
	want(t, a, 0, api.OPop, 0, 6, 9, true)
	want(t, &b, 0, api.OPop, 0, 6, 8, true)
}

// TestP2003CopiedAlike: a deque and its copy that are told the same tell the same, whichever is told first.
func TestP2003CopiedAlike(t *testing.T) {
	for seed := range int64(40) {
		a := New(3)
		story(a, seed)
		b, c := *a, *a
		told := story(&b, seed+100)
		story(&b, seed)
		wantSame(t, told, story(a, seed+100))
		wantSame(t, told, story(&c, seed+100))
	}
}

// TestP2003Zero: a deque that New did not make is of no places; it ends all, and panics at nothing.
func TestP2003Zero(t *testing.T) {
	var d Deque
	wantLen(t, &d, 0)
	wantLast(t, &d, api.Access{})
	want(t, &d, 0, api.OPush, 5, 2, 0, false)
	want(t, &d, 0, api.OPop, 5, 4, 0, false)
	want(t, &d, 1, api.OSteal, 5, 2, 0, false)
	story(&d, 1)
}
