package atom

import (
	"math"
	"slices"
	"strconv"
	"strings"
	"testing"
	"unsafe"

	"tapestrier/api"
)

// wantOf asks t for the number of s.
func wantOf(t *testing.T, table *Table, s string, want int) {
	t.Helper()
	if n, ok := table.Of(s); !ok || n != want {
		t.Errorf("Of(%q): %d, %v, want %d, true", s, n, ok, want)
	}
}

// wantNames asks in every way whether the table has just the names.
func wantNames(t *testing.T, table *Table, names ...string) {
	t.Helper()
	if table.Len() != len(names) {
		t.Errorf("Len: %d, want %d", table.Len(), len(names))
	}
	for n, s := range names {
		if got, ok := table.Find(s); !ok || got != n {
			t.Errorf("Find(%q): %d, %v, want %d, true", s, got, ok, n)
		}
		if got, ok := table.Name(n); !ok || got != s {
			t.Errorf("Name(%d): %q, %v, want %q, true", n, got, ok, s)
		}
	}
	for _, n := range []int{-1, -2, math.MinInt, len(names), len(names) + 1, api.MaxAtoms, math.MaxInt} {
		if got, ok := table.Name(n); ok || got != "" {
			t.Errorf("Name(%d): %q, %v, want none", n, got, ok)
		}
	}
}

// wantNone asks whether the table has none of the names, and gives them none by being asked.
func wantNone(t *testing.T, table *Table, names ...string) {
	t.Helper()
	before := table.Len()
	for range 2 {
		for _, s := range names {
			if n, ok := table.Find(s); ok || n != 0 {
				t.Errorf("Find(%q): %d, %v, want none", s, n, ok)
			}
		}
	}
	if table.Len() != before {
		t.Errorf("Len: %d behind Find, %d ahead of it", table.Len(), before)
	}
}

// full makes a table with all the names that it can have.
func full(t *testing.T) *Table {
	t.Helper()
	table := &Table{}
	for k := range api.MaxAtoms {
		if n, ok := table.Of(strconv.Itoa(k)); !ok || n != k || table.Len() != k+1 {
			t.Fatalf("Of(%d): %d, %v, Len %d", k, n, ok, table.Len())
		}
	}
	return table
}

func TestP201ZeroTable(t *testing.T) {
	var table Table
	wantNames(t, &table)
	wantNone(t, &table, "", "a", "0")
	wantNames(t, &table)
	wantOf(t, &table, "a", 0)
	wantNames(t, &table, "a")
}

func TestP201Example(t *testing.T) {
	var table Table
	wantOf(t, &table, "a", 0)
	wantOf(t, &table, "b", 1)
	wantOf(t, &table, "a", 0)
	wantNames(t, &table, "a", "b")
}

func TestP201OddNames(t *testing.T) {
	names := []string{"", "a", "A", "a ", " a", "\x00", "\x00\x00", "\xff", "\xfe", "\ufffd", "ä", "a\u0308", "0", strings.Repeat("x", 1<<16)}
	var table Table
	for round := range 3 {
		for n, s := range names {
			wantOf(t, &table, s, n)
			if round == 0 && table.Len() != n+1 {
				t.Errorf("Len: %d behind %d names", table.Len(), n+1)
			}
		}
		wantNames(t, &table, names...)
	}
	wantNone(t, &table, "b", "aa", "\xfd", strings.Repeat("x", 1<<16-1))
}

func TestP201EmptyNameLater(t *testing.T) {
	var table Table
	wantOf(t, &table, "a", 0)
	wantNone(t, &table, "")
	wantOf(t, &table, "", 1)
	wantNames(t, &table, "a", "")
}

func TestP201FindGivesNone(t *testing.T) {
	var table Table
	wantOf(t, &table, "a", 0)
	wantNone(t, &table, "b", "c")
	wantOf(t, &table, "c", 1)
	wantOf(t, &table, "b", 2)
	wantNames(t, &table, "a", "c", "b")
}

func TestP201FullTable(t *testing.T) {
	table := full(t)
	for range 2 {
		for _, s := range []string{"one more", "", strconv.Itoa(api.MaxAtoms)} {
			if n, ok := table.Of(s); ok || n != 0 {
				t.Errorf("Of(%q): %d, %v, want none", s, n, ok)
			}
			wantNone(t, table, s)
		}
	}
	names := make([]string, api.MaxAtoms)
	for k := range names {
		names[k] = strconv.Itoa(k)
		wantOf(t, table, names[k], k)
	}
	wantNames(t, table, names...)
}

func TestP202TwoTables(t *testing.T) {
	var a, b Table
	wantOf(t, &a, "x", 0)
	wantOf(t, &a, "y", 1)
	wantNames(t, &b)
	wantNone(t, &b, "x", "y")
	wantOf(t, &b, "y", 0)
	wantOf(t, &b, "z", 1)
	wantNames(t, &a, "x", "y")
	wantNone(t, &a, "z")
	wantNames(t, &b, "y", "z")
	wantNone(t, &b, "x")
}

func TestP202FullTableLeavesRoomInOthers(t *testing.T) {
	full(t)
	var other Table
	wantOf(t, &other, "7", 0)
	wantNames(t, &other, "7")
}

func TestP202CopiedTable(t *testing.T) {
	var a Table
	for n, s := range []string{"p", "q", "r"} {
		wantOf(t, &a, s, n)
	}
	b, c := a, a
	wantOf(t, &a, "a's", 3)
	wantNone(t, &b, "a's")
	wantOf(t, &b, "b's", 3)
	wantOf(t, &b, "a's", 4)
	wantNone(t, &c, "a's", "b's")
	wantOf(t, &c, "c's", 3)
	wantOf(t, &a, "more", 4)
	wantNames(t, &a, "p", "q", "r", "a's", "more")
	wantNames(t, &b, "p", "q", "r", "b's", "a's")
	wantNames(t, &c, "p", "q", "r", "c's")
	wantNone(t, &a, "b's", "c's")
	wantNone(t, &b, "c's", "more")
}

func TestP202CopiedZeroTable(t *testing.T) {
	var a Table
	b := a
	wantOf(t, &b, "x", 0)
	wantNames(t, &a)
	wantNone(t, &a, "x")
	wantOf(t, &a, "y", 0)
	wantNames(t, &b, "x")
	wantNone(t, &b, "y")
}

// TestP202NothingKept: the memory of a name that was handed in may be turned into something else.
func TestP202NothingKept(t *testing.T) {
	memory := []byte("name")
	var table Table
	wantOf(t, &table, unsafe.String(&memory[0], len(memory)), 0)
	if !slices.Equal(memory, []byte("name")) {
		t.Errorf("the argument became %q", memory)
	}
	copy(memory, "else")
	wantNames(t, &table, "name")
	wantNone(t, &table, "else")
}

func TestP202NewMemory(t *testing.T) {
	var table Table
	wantOf(t, &table, "name", 0)
	one, _ := table.Name(0)
	other, _ := table.Name(0)
	if unsafe.StringData(one) == unsafe.StringData(other) {
		t.Error("two answers of Name share memory")
	}
}

// TestP202SameTold: the answers hang on what the table was told, not on the order of its map.
func TestP202SameTold(t *testing.T) {
	var first, second Table
	for k := range 2000 {
		s := strconv.Itoa(k * 7919 % 1009)
		n, ok := first.Of(s)
		m, also := second.Of(s)
		if n != m || ok != also {
			t.Fatalf("%q: %d, %v and %d, %v", s, n, ok, m, also)
		}
	}
	if first.Len() != 1009 || second.Len() != 1009 {
		t.Errorf("Len: %d and %d", first.Len(), second.Len())
	}
}
