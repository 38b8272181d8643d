package deque

import (
	"math"
	"strconv"
	"testing"

	"tapestrier/api"
)

func begin(t *testing.T, d *Deque, who, kind, x int) {
	t.Helper()
	if e := d.Begin(who, kind, x); e != api.OK {
		t.Fatalf("P2001: Begin(%d, %d, %d): %v, want OK", who, kind, x, e)
	}
}

// wantSteps does n steps of who's operation, none of which ends it.
func wantSteps(t *testing.T, d *Deque, who, n int) {
	t.Helper()
	for i := range n {
		if ended, x, ok := d.Step(who); ended || x != 0 || ok || !d.Busy(who) {
			t.Fatalf("P2001: step %d of %d: %v, %d, %v, Busy %v, want that it goes on", i+1, who, ended, x, ok, d.Busy(who))
		}
	}
}

// wantEnd does the step that ends who's operation.
func wantEnd(t *testing.T, d *Deque, who, x int, ok bool) {
	t.Helper()
	if ended, y, is := d.Step(who); !ended || y != x || is != ok || d.Busy(who) {
		t.Errorf("P2001: the end of %d: %v, %d, %v, Busy %v, want true, %d, %v", who, ended, y, is, d.Busy(who), x, ok)
	}
}

// want does an operation from its beginning to its end, which is its step number steps.
func want(t *testing.T, d *Deque, who, kind, x, steps, y int, ok bool) {
	t.Helper()
	begin(t, d, who, kind, x)
	wantSteps(t, d, who, steps-1)
	wantEnd(t, d, who, y, ok)
}

func wantPush(t *testing.T, d *Deque, xs ...int) {
	t.Helper()
	for _, x := range xs {
		want(t, d, 0, api.OPush, x, 4, x, true)
	}
}

func wantLen(t *testing.T, d *Deque, n int) {
	t.Helper()
	if got := d.Len(); got != n {
		t.Errorf("P2002: Len: %d, want %d", got, n)
	}
}

func wantLast(t *testing.T, d *Deque, a api.Access) {
	t.Helper()
	if got := d.Last(); got != a {
		t.Errorf("P2002: Last: %v, want %v", got, a)
	}
}

// wantRefused asks for what can't begin, and whether nothing is changed by it.
func wantRefused(t *testing.T, d *Deque, who, kind int) {
	t.Helper()
	ahead := *d
	if e := d.Begin(who, kind, 5); e != api.ErrArg {
		t.Errorf("P2001: Begin(%d, %d): %v, want ErrArg", who, kind, e)
	}
	if *d != ahead {
		t.Errorf("P2001: Begin(%d, %d) changed something", who, kind)
	}
}

// strangers are numbers of nobody.
func strangers() []int {
	return []int{-1, -2, -64, 65, 66, 128, 1 << 16, 1 << 32, 1<<32 + 1, math.MaxInt, math.MinInt}
}

func TestP2001Example(t *testing.T) {
	d := New(3)
	begin(t, d, 0, api.OPush, 7)
	wantSteps(t, d, 0, 3)
	wantEnd(t, d, 0, 7, true)
}

func TestP2001New(t *testing.T) {
	d := New(3)
	wantLen(t, d, 0)
	wantLast(t, d, api.Access{})
	for who := range api.MaxWorkers + 1 {
		if d.Busy(who) {
			t.Errorf("P2001: %d is Busy", who)
		}
	}
}

// TestP2001Sizes: as many are pushed as the size says, and no more; the size is cut.
func TestP2001Sizes(t *testing.T) {
	for _, r := range []struct{ size, want int }{
		{math.MinInt, 1}, {-1024, 1}, {-1, 1}, {0, 1}, {1, 1}, {2, 2}, {16, 16}, {255, 255}, {1023, 1023}, {1024, 1024}, {1025, 1024}, {2048, 1024}, {1 << 32, 1024}, {math.MaxInt, 1024},
	} {
		t.Run(strconv.Itoa(r.size), func(t *testing.T) {
			d := New(r.size)
			for i := range r.want {
				wantPush(t, d, -i)
			}
			want(t, d, 0, api.OPush, 5, 2, 0, false)
			wantLen(t, d, r.want)
			want(t, d, 1, api.OSteal, 0, 4, 0, true)
			wantPush(t, d, 9)
			want(t, d, 0, api.OPush, 5, 2, 0, false)
			steps := 4
			if r.want == 1 {
				steps = 6 // it is the last one, too
			}
			want(t, d, 0, api.OPop, 0, steps, 9, true)
			for i := range r.want - 1 {
				want(t, d, 1, api.OSteal, 0, 4, -i-1, true)
			}
			wantLen(t, d, 0)
			want(t, d, 1, api.OSteal, 0, 2, 0, false)
			want(t, d, 0, api.OPop, 0, 4, 0, false)
		})
	}
}

// TestP2001WhoAndKind: which operations are for whom.
func TestP2001WhoAndKind(t *testing.T) {
	kinds := []int{-1, 0, api.OPush, api.OPop, api.OSteal, 4, 5, 1 << 32, 1<<32 + 1, 1<<32 + 3, math.MaxInt, math.MinInt}
	for who := -3; who < 70; who++ {
		for _, kind := range kinds {
			d := New(2)
			owners := who == 0 && (kind == api.OPush || kind == api.OPop)
			thiefs := who >= 1 && who <= 64 && kind == api.OSteal
			if owners || thiefs {
				begin(t, d, who, kind, 5)
				if !d.Busy(who) {
					t.Errorf("P2001: %d is not Busy with %d", who, kind)
				}
			} else {
				wantRefused(t, d, who, kind)
			}
		}
	}
	for _, who := range strangers() {
		for _, kind := range kinds {
			wantRefused(t, New(2), who, kind)
		}
	}
}

// TestP2001BeginBusy: who is Busy begins nothing, and goes on as if nobody had asked.
func TestP2001BeginBusy(t *testing.T) {
	d := New(2)
	wantPush(t, d, 1)
	begin(t, d, 0, api.OPush, 8)
	begin(t, d, 7, api.OSteal, 0)
	for range 3 {
		for kind := range 5 {
			wantRefused(t, d, 0, kind)
			wantRefused(t, d, 7, kind)
		}
		wantSteps(t, d, 0, 1)
		wantSteps(t, d, 7, 1)
	}
	wantEnd(t, d, 0, 8, true)
	wantRefused(t, d, 7, api.OSteal)
	wantEnd(t, d, 7, 1, true)
	want(t, d, 0, api.OPop, 0, 6, 8, true)
}

// TestP2001BeginDoesNothing: an operation that was begun has done nothing yet.
func TestP2001BeginDoesNothing(t *testing.T) {
	d := New(2)
	for _, r := range []struct{ who, kind int }{{0, api.OPush}, {1, api.OSteal}, {64, api.OSteal}} {
		begin(t, d, r.who, r.kind, 3)
		wantLast(t, d, api.Access{})
		wantLen(t, d, 0)
	}
	d = New(2)
	wantPush(t, d, 4)
	last := d.Last()
	begin(t, d, 0, api.OPop, 0)
	wantLast(t, d, last)
	wantLen(t, d, 1)
}

// TestP2001StepOfNobody: of who is not Busy nothing is done.
func TestP2001StepOfNobody(t *testing.T) {
	d := New(2)
	wantPush(t, d, 4)
	begin(t, d, 3, api.OSteal, 0)
	wantSteps(t, d, 3, 2)
	ahead := *d
	for _, who := range append(strangers(), 0, 1, 2, 4, 64) {
		if d.Busy(who) {
			t.Errorf("P2001: %d is Busy", who)
		}
		if ended, x, ok := d.Step(who); ended || x != 0 || ok {
			t.Errorf("P2001: Step(%d): %v, %d, %v, want false, 0, false", who, ended, x, ok)
		}
	}
	if *d != ahead {
		t.Error("P2001: something was done")
	}
	wantSteps(t, d, 3, 1)
	wantEnd(t, d, 3, 4, true)
	if ended, x, ok := d.Step(3); ended || x != 0 || ok {
		t.Errorf("P2001: behind the end: %v, %d, %v, want false, 0, false", ended, x, ok)
	}
}

// TestP2001Order: the owner takes what was pushed last, the others what was pushed first.
func TestP2001Order(t *testing.T) {
	d := New(8)
	wantPush(t, d, 1, 2, 3, 4, 5, 6)
	want(t, d, 0, api.OPop, 0, 4, 6, true)
	want(t, d, 1, api.OSteal, 0, 4, 1, true)
	want(t, d, 64, api.OSteal, 0, 4, 2, true)
	want(t, d, 0, api.OPop, 0, 4, 5, true)
	wantPush(t, d, 7)
	want(t, d, 2, api.OSteal, 0, 4, 3, true)
	want(t, d, 0, api.OPop, 0, 4, 7, true)
	wantLen(t, d, 1)
	want(t, d, 0, api.OPop, 0, 6, 4, true)
	want(t, d, 0, api.OPop, 0, 4, 0, false)
	want(t, d, 1, api.OSteal, 0, 2, 0, false)
	wantPush(t, d, 8)
	want(t, d, 1, api.OSteal, 0, 4, 8, true)
	want(t, d, 0, api.OPop, 0, 4, 0, false)
}

// TestP2001OddNumbers: any number is pushed and taken as it is, 0 too; what is handed in for a pop or a steal is not looked at.
func TestP2001OddNumbers(t *testing.T) {
	odd := []int{0, -1, 1, math.MaxInt, math.MinInt, 1 << 32, -1 << 32, 1000, -1000, -1001}
	d := New(len(odd))
	wantPush(t, d, odd...)
	for i, x := range odd[:5] {
		want(t, d, i+1, api.OSteal, 77+i, 4, x, true)
	}
	for i := len(odd) - 1; i > 5; i-- {
		want(t, d, 0, api.OPop, 88+i, 4, odd[i], true)
	}
	want(t, d, 0, api.OPop, 88, 6, odd[5], true)
	want(t, d, 0, api.OPop, 88, 4, 0, false)
	want(t, d, 9, api.OSteal, 88, 2, 0, false)
}

// TestP2001PushSeesFull: a push that saw no room is false, though a thief makes some behind that; one that saw room is true.
func TestP2001PushSeesFull(t *testing.T) {
	d := New(1)
	wantPush(t, d, 1)
	begin(t, d, 2, api.OSteal, 0)
	wantSteps(t, d, 2, 3)
	begin(t, d, 0, api.OPush, 5)
	wantSteps(t, d, 0, 1)
	wantEnd(t, d, 0, 0, false)
	wantEnd(t, d, 2, 1, true)

	wantPush(t, d, 6)
	begin(t, d, 2, api.OSteal, 0)
	wantSteps(t, d, 2, 3)
	begin(t, d, 0, api.OPush, 7)
	wantSteps(t, d, 0, 1)
	wantEnd(t, d, 2, 6, true)
	wantSteps(t, d, 0, 2)
	wantEnd(t, d, 0, 7, true)
}

// TestP2001StealSeesNone: a thief that saw nothing is false, though something is pushed behind that; amid a pop of the last one, too.
func TestP2001StealSeesNone(t *testing.T) {
	d := New(4)
	begin(t, d, 0, api.OPush, 5)
	begin(t, d, 1, api.OSteal, 0)
	wantSteps(t, d, 0, 3)
	wantSteps(t, d, 1, 1)
	wantEnd(t, d, 1, 0, false)
	begin(t, d, 1, api.OSteal, 0)
	wantSteps(t, d, 1, 1)
	wantEnd(t, d, 0, 5, true)
	wantSteps(t, d, 1, 2)
	wantEnd(t, d, 1, 5, true)

	wantPush(t, d, 6)
	begin(t, d, 0, api.OPop, 0)
	wantSteps(t, d, 0, 2)
	want(t, d, 1, api.OSteal, 0, 2, 0, false)
	wantSteps(t, d, 0, 3)
	want(t, d, 1, api.OSteal, 0, 2, 0, false)
	wantEnd(t, d, 0, 6, true)
}

// TestP2001LastOne: who writes top first has the last one, whoever that is; the other has nothing, and tells 0.
func TestP2001LastOne(t *testing.T) {
	for _, ownerFirst := range []bool{true, false} {
		d := New(2)
		wantPush(t, d, 5)
		begin(t, d, 3, api.OSteal, 0)
		wantSteps(t, d, 3, 3)
		begin(t, d, 0, api.OPop, 0)
		wantSteps(t, d, 0, 4)
		if ownerFirst {
			wantSteps(t, d, 0, 1)
			wantEnd(t, d, 3, 0, false)
			wantEnd(t, d, 0, 5, true)
		} else {
			wantEnd(t, d, 3, 5, true)
			wantSteps(t, d, 0, 1)
			wantEnd(t, d, 0, 0, false)
		}
		wantLen(t, d, 0)
		wantPush(t, d, 6)
		want(t, d, 0, api.OPop, 0, 6, 6, true)
	}
}

// TestP2001PopSeesGone: a pop of the last one that sees that a thief was ahead skips two steps.
func TestP2001PopSeesGone(t *testing.T) {
	d := New(2)
	wantPush(t, d, 5)
	begin(t, d, 0, api.OPop, 0)
	begin(t, d, 1, api.OSteal, 0)
	wantSteps(t, d, 1, 3)
	wantSteps(t, d, 0, 2)
	wantEnd(t, d, 1, 5, true)
	wantSteps(t, d, 0, 1)
	wantEnd(t, d, 0, 0, false)
	wantLen(t, d, 0)
}

// TestP2001PopSawMore: a pop that saw more than one needs no top, though thieves take all others behind that.
func TestP2001PopSawMore(t *testing.T) {
	d := New(4)
	wantPush(t, d, 5, 6, 7)
	begin(t, d, 0, api.OPop, 0)
	wantSteps(t, d, 0, 3)
	want(t, d, 1, api.OSteal, 0, 4, 5, true)
	want(t, d, 2, api.OSteal, 0, 4, 6, true)
	want(t, d, 3, api.OSteal, 0, 2, 0, false)
	wantEnd(t, d, 0, 7, true)
	wantLen(t, d, 0)
}

// TestP2001Thieves: of all that saw the same one, the first that writes has it.
func TestP2001Thieves(t *testing.T) {
	d := New(4)
	wantPush(t, d, 5, 6)
	for who := 1; who <= 64; who++ {
		begin(t, d, who, api.OSteal, 0)
		wantSteps(t, d, who, 3)
	}
	wantEnd(t, d, 40, 5, true)
	for who := 1; who <= 64; who++ {
		if who != 40 {
			wantEnd(t, d, who, 0, false)
		}
	}
	wantLen(t, d, 1)
	want(t, d, 64, api.OSteal, 0, 4, 6, true)
}

// TestP2001OldPlace: a thief that read a place which was written anew meanwhile has nothing of either.
func TestP2001OldPlace(t *testing.T) {
	d := New(2)
	wantPush(t, d, 5, 6)
	begin(t, d, 1, api.OSteal, 0)
	begin(t, d, 2, api.OSteal, 0)
	wantSteps(t, d, 1, 2)
	wantSteps(t, d, 2, 3)
	want(t, d, 3, api.OSteal, 0, 4, 5, true)
	wantPush(t, d, 7)
	wantSteps(t, d, 1, 1)
	wantEnd(t, d, 1, 0, false)
	wantEnd(t, d, 2, 0, false)
	want(t, d, 1, api.OSteal, 0, 4, 6, true)
	want(t, d, 2, api.OSteal, 0, 4, 7, true)
}
