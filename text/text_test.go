package text

import (
	"bytes"
	"math"
	"slices"
	"strings"
	"testing"
	"unsafe"
)

// oracle decodes by the table of well-formed UTF-8, without the library, so that it can be held against Points.
func oracle(b []byte) []int {
	var out []int
	for i := 0; i < len(b); {
		p, n := oracleOne(b[i:])
		out = append(out, p)
		i += n
	}
	return out
}

func oracleOne(b []byte) (int, int) {
	size, low, p := 0, 0, int(b[0])
	switch {
	case p < 0x80:
		return p, 1
	case p>>5 == 6:
		size, low, p = 2, 0x80, p&0x1F
	case p>>4 == 14:
		size, low, p = 3, 0x800, p&0x0F
	case p>>3 == 30:
		size, low, p = 4, 0x10000, p&0x07
	default:
		return 65533, 1
	}
	if len(b) < size {
		return 65533, 1
	}
	for _, c := range b[1:size] {
		if c>>6 != 2 {
			return 65533, 1
		}
		p = p<<6 | int(c&0x3F)
	}
	if p < low || p > 1114111 || p >= 55296 && p <= 57343 {
		return 65533, 1
	}
	return p, size
}

// oraclePrepare is P101's sentence on Prepare, step by step: first the pairs, then the lone ones.
func oraclePrepare(b []byte) []int {
	l := Points(b)
	var out []int
	for i := 0; i < len(l); i++ {
		switch {
		case l[i] == 13 && i+1 < len(l) && l[i+1] == 10:
			out = append(out, 10)
			i++
		case l[i] == 13 || l[i] == 12:
			out = append(out, 10)
		case l[i] == 0:
			out = append(out, 65533)
		default:
			out = append(out, l[i])
		}
	}
	return out
}

func TestP101Points(t *testing.T) {
	rows := []struct {
		in   string
		want []int
	}{
		{"", nil},
		{"abc", []int{97, 98, 99}},
		{"\x00\t\n\f\r\r\n\x7f", []int{0, 9, 10, 12, 13, 13, 10, 127}},
		{"\u0080\u07ff\u0800\uffff\U00010000\U0010ffff", []int{128, 2047, 2048, 65535, 65536, 1114111}},
		{"\ud7ff\ue000", []int{55295, 57344}},
		{"\ufeffa", []int{65279, 97}},
		{"\x80a", []int{65533, 97}},
		{"\xbf\xbf", []int{65533, 65533}},
		{"\xc3a", []int{65533, 97}},
		{"\xc3\xc3\xa9", []int{65533, 233}},
		{"\xe2\x82a", []int{65533, 65533, 97}},
		{"\xf0\x9f\x98", []int{65533, 65533, 65533}},
		{"\xf0\x9f\x98\xf0\x9f\x98\x80", []int{65533, 65533, 65533, 128512}},
		{"\xc1\xbf", []int{65533, 65533}},
		{"\xe0\x9f\xbf", []int{65533, 65533, 65533}},
		{"\xf0\x8f\xbf\xbf", []int{65533, 65533, 65533, 65533}},
		{"\xed\xa0\x80", []int{65533, 65533, 65533}},
		{"\xed\xbf\xbf", []int{65533, 65533, 65533}},
		{"\xf4\x90\x80\x80", []int{65533, 65533, 65533, 65533}},
		{"\xf8\x88\x80\x80\x80", []int{65533, 65533, 65533, 65533, 65533}},
		{"\xfe\xff", []int{65533, 65533}},
		{"\xef\xbf\xbd", []int{65533}},
	}
	for _, r := range rows {
		if got := Points([]byte(r.in)); !slices.Equal(got, r.want) {
			t.Errorf("Points of %q: %v, not %v", r.in, got, r.want)
		}
	}
	if got := Points(nil); len(got) != 0 {
		t.Errorf("Points of nil: %v", got)
	}
}

func TestP101PointsOfAllShortTexts(t *testing.T) {
	for a := range 256 {
		for b := range 256 {
			two := []byte{byte(a), byte(b)}
			if got, want := Points(two), oracle(two); !slices.Equal(got, want) {
				t.Fatalf("Points of %x: %v, not %v", two, got, want)
			}
		}
	}
	edges := []byte{0, 10, 13, 0x41, 0x7F, 0x80, 0x8F, 0x90, 0x9F, 0xA0, 0xBF, 0xC0, 0xC1, 0xC2, 0xDF, 0xE0, 0xE1, 0xEC, 0xED, 0xEE, 0xEF, 0xF0, 0xF1, 0xF3, 0xF4, 0xF5, 0xF8, 0xFF}
	for _, a := range edges {
		for _, b := range edges {
			for _, c := range edges {
				for _, d := range edges {
					four := []byte{a, b, c, d, 0x80}
					if got, want := Points(four), oracle(four); !slices.Equal(got, want) {
						t.Fatalf("Points of %x: %v, not %v", four, got, want)
					}
				}
			}
		}
	}
}

func TestP101PointsAsARangeOverAString(t *testing.T) {
	s := "a\xffé\xe2\x82€\r\n\x00😀\xf0\x9f"
	var want []int
	for _, r := range s {
		want = append(want, int(r))
	}
	if got := Points([]byte(s)); !slices.Equal(got, want) {
		t.Errorf("Points: %v, not %v", got, want)
	}
}

func TestP101Prepare(t *testing.T) {
	rows := []struct {
		in   string
		want []int
	}{
		{"", nil},
		{"\r\nA", []int{10, 65}},
		{"\r", []int{10}},
		{"\n", []int{10}},
		{"\f", []int{10}},
		{"\x00", []int{65533}},
		{"\r\r", []int{10, 10}},
		{"\n\n", []int{10, 10}},
		{"\n\r", []int{10, 10}},
		{"\r\n\n", []int{10, 10}},
		{"\r\r\n", []int{10, 10}},
		{"\r\n\r\n", []int{10, 10}},
		{"\r\n\r", []int{10, 10}},
		{"\ra\n", []int{10, 97, 10}},
		{"\r\f\n", []int{10, 10, 10}},
		{"\f\n", []int{10, 10}},
		{"\r\x00\n", []int{10, 65533, 10}},
		{"\r\xff\n", []int{10, 65533, 10}},
		{"\xff\x00é\v\u0085\u2028", []int{65533, 65533, 233, 11, 133, 8232}},
	}
	for _, r := range rows {
		if got := Prepare([]byte(r.in)); !slices.Equal(got, r.want) {
			t.Errorf("Prepare of %q: %v, not %v", r.in, got, r.want)
		}
	}
	if got := Prepare(nil); len(got) != 0 {
		t.Errorf("Prepare of nil: %v", got)
	}
}

func TestP101PrepareOfAllShortTexts(t *testing.T) {
	signs := []byte{13, 10, 12, 0, 'a', 0xFF}
	var try func(b []byte)
	try = func(b []byte) {
		if got, want := Prepare(b), oraclePrepare(b); !slices.Equal(got, want) {
			t.Fatalf("Prepare of %x: %v, not %v", b, got, want)
		}
		if len(b) == 5 {
			return
		}
		for _, c := range signs {
			try(append(slices.Clone(b), c))
		}
	}
	try(nil)
}

func TestP101Bytes(t *testing.T) {
	rows := []struct {
		in   []int
		want string
	}{
		{nil, ""},
		{[]int{}, ""},
		{[]int{0, 10, 13, 127}, "\x00\n\r\x7f"},
		{[]int{128, 2047, 2048, 65535, 65536, 1114111}, "\xc2\x80\xdf\xbf\xe0\xa0\x80\xef\xbf\xbf\xf0\x90\x80\x80\xf4\x8f\xbf\xbf"},
		{[]int{55295, 55296, 56320, 57343, 57344}, "\xed\x9f\xbf\xef\xbf\xbd\xef\xbf\xbd\xef\xbf\xbd\xee\x80\x80"},
		{[]int{-1, 1114112, math.MinInt, math.MaxInt}, "\xef\xbf\xbd\xef\xbf\xbd\xef\xbf\xbd\xef\xbf\xbd"},
		{[]int{1<<32 + 97, -1<<32 + 97, 1 << 32, 1 << 31}, "\xef\xbf\xbd\xef\xbf\xbd\xef\xbf\xbd\xef\xbf\xbd"},
		{[]int{65533}, "\xef\xbf\xbd"},
	}
	for _, r := range rows {
		if got := Bytes(r.in); string(got) != r.want {
			t.Errorf("Bytes of %v: %q, not %q", r.in, got, r.want)
		}
	}
}

func TestP101BytesAndBack(t *testing.T) {
	for n := -3; n <= 1114111+3; n++ {
		want := n
		if n < 0 || n > 1114111 || n >= 55296 && n <= 57343 {
			want = 65533
		}
		if got := oracle(Bytes([]int{n})); len(got) != 1 || got[0] != want {
			t.Fatalf("Bytes of %d is of %v, not of %d", n, got, want)
		}
		if got := Points(Bytes([]int{n})); len(got) != 1 || got[0] != want {
			t.Fatalf("Points of Bytes of %d: %v, not %d", n, got, want)
		}
	}
}

func TestP101Lower(t *testing.T) {
	for c := range 256 {
		want := byte(c)
		if strings.Contains("ABCDEFGHIJKLMNOPQRSTUVWXYZ", string([]byte{byte(c)})) {
			want = byte(c) + 32
		}
		if got := Lower(string([]byte{byte(c), 'M'})); got != string([]byte{want, 'm'}) {
			t.Errorf("Lower of byte %d: %q", c, got)
		}
	}
	for in, want := range map[string]string{"": "", "Font-SIZE": "font-size", "ÀÉ\u212a": "ÀÉ\u212a", "\xffA\xc3Z\x00": "\xffa\xc3z\x00"} {
		if got := Lower(in); got != want {
			t.Errorf("Lower of %q: %q", in, got)
		}
	}
}

const mixed = "A\r\n\r\f\x00é\xff😀\xe2\x82z"

// TestP102HandedInStays also looks at the spare room of what is handed in.
func TestP102HandedInStays(t *testing.T) {
	room := []byte(mixed + "\r\n spare")
	before := bytes.Clone(room)
	Points(room[:len(mixed)])
	Prepare(room[:len(mixed)])
	if !bytes.Equal(room, before) {
		t.Errorf("bytes were %q, are %q", before, room)
	}
	list := []int{97, -1, 55296, 1114112, 0, 13, 10, 7, 7, 7}
	kept := slices.Clone(list)
	Bytes(list[:7])
	if !slices.Equal(list, kept) {
		t.Errorf("points were %v, are %v", kept, list)
	}
}

func TestP102ListsAreNewMemory(t *testing.T) {
	calls := map[string]func([]byte) []int{"Points": Points, "Prepare": Prepare}
	for name, call := range calls {
		in := []byte(mixed)
		first, second := call(in), call(in)
		want := slices.Clone(first)
		if !slices.Equal(second, want) {
			t.Errorf("%s: %v, then %v", name, first, second)
		}
		clear(in)
		if !slices.Equal(first, want) {
			t.Errorf("%s keeps what it was handed", name)
		}
		clear(first[:cap(first)])
		third := call([]byte(mixed))
		if !slices.Equal(second, want) || !slices.Equal(third, want) {
			t.Errorf("%s: its answers share memory", name)
		}
	}
}

func TestP102BytesAreNewMemory(t *testing.T) {
	in := []int{97, -1, 55296, 8364, 0}
	first, second := Bytes(in), Bytes(in)
	want := bytes.Clone(first)
	clear(in)
	if !bytes.Equal(first, want) {
		t.Error("Bytes keeps what it was handed")
	}
	clear(first[:cap(first)])
	third := Bytes([]int{97, -1, 55296, 8364, 0})
	if !bytes.Equal(second, want) || !bytes.Equal(third, want) {
		t.Error("Bytes: its answers share memory")
	}
}

func TestP102LowerIsNewMemory(t *testing.T) {
	for _, s := range []string{"nothing to lower", "Something To Lower"} {
		whole := strings.Clone(s)
		got := Lower(whole)
		if unsafe.StringData(got) == unsafe.StringData(whole) {
			t.Errorf("Lower of %q shares its memory", s)
		}
		if whole != s {
			t.Errorf("%q became %q", s, whole)
		}
	}
}

// TestIterators leaves each iterator at every place, and goes over it a second time.
func TestIterators(t *testing.T) {
	points := decoded([]byte(mixed))
	ready := prepared(points)
	for stop := range len(Points([]byte(mixed))) {
		var got []int
		for p := range points {
			if len(got) == stop {
				break
			}
			got = append(got, p)
		}
		if want := Points([]byte(mixed))[:stop]; !slices.Equal(got, want) {
			t.Errorf("decoded, left behind %d: %v, not %v", stop, got, want)
		}
	}
	for stop := range len(Prepare([]byte(mixed))) {
		var got []int
		for p := range ready {
			if len(got) == stop {
				break
			}
			got = append(got, p)
		}
		if want := Prepare([]byte(mixed))[:stop]; !slices.Equal(got, want) {
			t.Errorf("prepared, left behind %d: %v, not %v", stop, got, want)
		}
	}
}
