package num

import (
	"math"
	"math/big"
	"regexp"
	"strings"
	"testing"

	"tapestrier/api"
)

const most = api.MaxNum

// edges are numbers at and around every bound that the calls know.
var edges = []int{
	0, 1, -1, 5, -5, 499, -499, 500, -500, 999, -999, 1000, -1000, 1001, -1001, 1500, -1500, 31622, 46340, 46341, -46341,
	1465000, 2147483, 2147484, -2147483, -2147484, most/2 + 1, -most/2 - 1,
	most - 1, most, most + 1, most + 1000, 1 - most, -most, -most - 1, -most - 2, -most - 1000,
	1 << 40, -1 << 40, math.MaxInt - 1, math.MaxInt, math.MinInt, math.MinInt + 1,
}

// capOf holds n within the bounds, by numbers that have none.
func capOf(n *big.Int) int {
	bound := big.NewInt(most)
	if n.Cmp(bound) > 0 {
		return most
	}
	if n.Cmp(new(big.Int).Neg(bound)) < 0 {
		return -most
	}
	return int(n.Int64())
}

// capped is n held within the bounds, as a number that has none.
func capped(n int) *big.Int {
	return big.NewInt(int64(capOf(big.NewInt(int64(n)))))
}

// wantOf asks for the number of s.
func wantOf(t *testing.T, s string, want int) {
	t.Helper()
	if n, ok := Of(s); !ok || n != want {
		t.Errorf("Of(%.40q): %d, %v, want %d, true", s, n, ok, want)
	}
}

// wantSigns asks for the number of the text s, which has no sign, without one and with each.
func wantSigns(t *testing.T, s string, want int) {
	t.Helper()
	wantOf(t, s, want)
	wantOf(t, "+"+s, want)
	wantOf(t, "-"+s, -want)
}

// wantNone asks whether s is no number's text.
func wantNone(t *testing.T, s string) {
	t.Helper()
	if n, ok := Of(s); ok || n != 0 {
		t.Errorf("Of(%.40q): %d, %v, want 0, false", s, n, ok)
	}
}

// wantText asks for the text of n.
func wantText(t *testing.T, n int, want string) {
	t.Helper()
	if s := Text(n); s != want {
		t.Errorf("Text(%d): %q, want %q", n, s, want)
	}
}

func TestP301Example(t *testing.T) {
	wantOf(t, "-1.2345", -1234)
	wantText(t, -1234, "-1.234")
}

func TestP301Of(t *testing.T) {
	for s, want := range map[string]int{
		"0": 0, "1": 1000, "9": 9000, "10": 10000, "42": 42000, "0123456": 123456000, "78.9": 78900, "007": 7000, "000": 0,
		"1.5": 1500, "1.05": 1050, "1.005": 1005, "12.34": 12340, "0.5": 500, "00.500": 500, "0.0": 0, "7.0": 7000,
		".5": 500, ".05": 50, ".005": 5, ".0": 0, ".000": 0, ".123": 123,
	} {
		wantSigns(t, s, want)
	}
}

func TestP301DigitsLeftOff(t *testing.T) {
	for s, want := range map[string]int{
		"1.2345": 1234, "1.2349": 1234, "1.23499999": 1234, "0.9999": 999, ".9999": 999, "0.0009": 0, ".00099999": 0,
		"1.0000": 1000, "3.00000000000000000000001": 3000, "1.9995": 1999,
	} {
		wantSigns(t, s, want)
	}
	wantSigns(t, "1.234"+strings.Repeat("9", 100000), 1234)
	wantSigns(t, "."+strings.Repeat("0", 100000)+"9", 0)
}

func TestP301OfBounds(t *testing.T) {
	for s, want := range map[string]int{
		"2147483.646": most - 1, "2147483.6469": most - 1, "2147483.647": most, "2147483.6479": most, "2147483.648": most,
		"2147483.6": 2147483600, "2147483": 2147483000, "2147483.7": most, "2147484": most, "2147483.999": most,
		"0002147483.646": most - 1, "2147483647": most, "2147483648": most, "4294967296": most, "4294967.296": most,
		"9223372036854775807": most, "9223372036854775808": most, "9223372036854775.808": most,
		"18446744073709551616": most, "18446744073709551617": most, "18446744073709551.616": most, "18446744073709552": most,
	} {
		wantSigns(t, s, want)
	}
}

func TestP301ManyDigits(t *testing.T) {
	for _, count := range []int{7, 8, 19, 20, 21, 500, 100000} {
		wantSigns(t, strings.Repeat("9", count), most)
		wantSigns(t, "1"+strings.Repeat("0", count), most)
		wantSigns(t, "1"+strings.Repeat("0", count)+".001", most)
		wantSigns(t, strings.Repeat("0", count), 0)
		wantSigns(t, strings.Repeat("0", count)+"1", 1000)
		wantSigns(t, strings.Repeat("0", count)+"2.5"+strings.Repeat("0", count), 2500)
	}
}

func TestP301NoNumber(t *testing.T) {
	for _, s := range []string{
		"", "+", "-", ".", "+.", "-.", "1.", "+1.", "-1.", "0.", "++1", "--1", "+-1", "-+1", "++", "--", "1+", "1-", "1-1", "+ 1",
		"..", "..1", "1..", "1..2", "1.2.3", ".1.", ".1.2", ".+1", ".-1", "1.+2", "1.-2", "+1.2.3", "-.5.",
		" ", " 1", "1 ", "1 2", "1. 5", "1 .5", "\t1", "1\n", "\x001", "1\x00", "\x00",
		"a", "1a", "a1", "1e3", "1e", "1E3", "0x10", "1_000", "1,5", "1.5e2", "1.a", "1.5a", "1.2345a", "1.2345.", "1.2345-", "Inf", "NaN", "+Inf",
		"/", ":", "1/", "1:", "1./", "1.:", "٣", "1٣", "\xff", "1\xff", "1.\xff", "−1", "１",
		strings.Repeat("9", 100000) + "x", strings.Repeat("9", 100000) + ".", "1." + strings.Repeat("0", 100000) + "x",
	} {
		wantNone(t, s)
	}
	for c := range 256 {
		b := string([]byte{byte(c)})
		if c >= '0' && c <= '9' {
			wantOf(t, b, (c-'0')*1000)
			continue
		}
		wantNone(t, b)
		wantNone(t, "1"+b)
		wantNone(t, "1.2345"+b)
		if c != '.' {
			wantNone(t, "1"+b+"2")
		}
		if c != '+' && c != '-' && c != '.' {
			wantNone(t, b+"1")
		}
	}
}

// allTexts tells every text of at most so many of the letters.
func allTexts(letters string, most int) []string {
	texts := []string{""}
	for from := 0; most > 0; most-- {
		to := len(texts)
		for _, s := range texts[from:to] {
			for _, c := range letters {
				texts = append(texts, s+string(c))
			}
		}
		from = to
	}
	return texts
}

func TestP301AllShortTexts(t *testing.T) {
	form := regexp.MustCompile(`^[+-]?([0-9]+|[0-9]*\.[0-9]+)$`)
	for _, s := range allTexts("+-.019", 6) {
		if !form.MatchString(s) {
			wantNone(t, s)
			continue
		}
		exact, _ := new(big.Rat).SetString(s)
		exact.Mul(exact, big.NewRat(1000, 1))
		wantOf(t, s, capOf(new(big.Int).Quo(exact.Num(), exact.Denom())))
	}
}

func TestP301Text(t *testing.T) {
	for n, want := range map[int]string{
		0: "0", 1000: "1", 7000: "7", 10000: "10", 1000000: "1000", 2147483000: "2147483",
		1: "0.001", 5: "0.005", 10: "0.010", 50: "0.050", 100: "0.100", 500: "0.500", 999: "0.999",
		1001: "1.001", 1010: "1.010", 1100: "1.100", 1234: "1.234", 10005: "10.005", 999999: "999.999",
		most - 1: "2147483.646", most: "2147483.647", most + 1: "2147483.647", most + 1000: "2147483.647",
		1 << 40: "2147483.647", math.MaxInt: "2147483.647",
	} {
		wantText(t, n, want)
		if n != 0 {
			wantText(t, -n, "-"+want)
		}
	}
	wantText(t, math.MinInt, "-2147483.647")
	wantText(t, math.MinInt+1, "-2147483.647")
}

func TestP301OfText(t *testing.T) {
	for _, n := range edges {
		wantOf(t, Text(n), capOf(big.NewInt(int64(n))))
	}
	for n := -3000; n <= 3000; n++ {
		wantOf(t, Text(n), n)
	}
	for n := -most; n <= most; n += 999983 {
		wantOf(t, Text(n), n)
	}
}

func TestP302Cap(t *testing.T) {
	for n, want := range map[int]int{
		0: 0, 1: 1, -1: -1, -7: -7, 1000: 1000,
		most - 1: most - 1, most: most, most + 1: most, most + 2: most, math.MaxInt: most, 1 << 32: most, 1<<32 + 5: most,
		1 - most: 1 - most, -most: -most, -most - 1: -most, -most - 2: -most, math.MinInt: -most, math.MinInt + 1: -most, -1 << 32: -most,
	} {
		if got := Cap(n); got != want {
			t.Errorf("Cap(%d): %d, want %d", n, got, want)
		}
	}
}

func TestP302AddAtBounds(t *testing.T) {
	for _, x := range [][3]int{
		{0, 0, 0}, {1500, 2000, 3500}, {-1, 999, 998}, {1500, -1500, 0},
		{most, 0, most}, {most, 1, most}, {most - 1, 1, most}, {most - 1, 2, most}, {most, most, most}, {most, -1, most - 1},
		{-most, 0, -most}, {-most, -1, -most}, {1 - most, -1, -most}, {1 - most, -2, -most}, {-most, -most, -most}, {-most, 1, 1 - most},
		{-most, most, 0}, {math.MaxInt, math.MaxInt, most}, {math.MinInt, math.MinInt, -most}, {math.MinInt, math.MaxInt, 0},
		{math.MaxInt, -1, most - 1}, {math.MinInt, 1, 1 - most}, {most + 5, -5, most - 5}, {-most - 5, 5, 5 - most},
	} {
		if got := Add(x[0], x[1]); got != x[2] {
			t.Errorf("Add(%d, %d): %d, want %d", x[0], x[1], got, x[2])
		}
		if got := Add(x[1], x[0]); got != x[2] {
			t.Errorf("Add(%d, %d): %d, want %d", x[1], x[0], got, x[2])
		}
	}
}

func TestP302TimesAtBounds(t *testing.T) {
	for _, x := range [][3]int{
		{0, 0, 0}, {1500, 2000, 3000}, {-1500, 1500, -2250}, {-1500, -1500, 2250}, {1000, 7, 7}, {-1000, 7, -7},
		{1, 1, 0}, {-1, 1, 0}, {-1, -1, 0}, {999, 1, 0}, {-999, 1, 0}, {1000, -1, -1}, {1001, -1, -1}, {1999, -1, -1}, {1999, 1, 1},
		{1, 1500, 1}, {-1, 1500, -1}, {33, 33, 1}, {-33, 33, -1}, {2500, 3, 7}, {-2500, 3, -7},
		{most, 1, 2147483}, {-most, 1, -2147483}, {most, 999, 2145336163}, {most, 1000, most}, {most, 1001, most}, {-most, 1000, -most}, {-most, 1001, -most},
		{most, most, most}, {-most, most, -most}, {-most, -most, most}, {most, 0, 0}, {math.MinInt, 0, 0}, {math.MaxInt, 0, 0},
		{math.MaxInt, 1, 2147483}, {math.MinInt, 1, -2147483}, {math.MinInt, -1, 2147483}, {math.MaxInt, 500, most / 2}, {math.MinInt, 500, -(most / 2)},
		{math.MaxInt, math.MaxInt, most}, {math.MinInt, math.MinInt, most}, {math.MinInt, math.MaxInt, -most},
	} {
		if got := Times(x[0], x[1]); got != x[2] {
			t.Errorf("Times(%d, %d): %d, want %d", x[0], x[1], got, x[2])
		}
		if got := Times(x[1], x[0]); got != x[2] {
			t.Errorf("Times(%d, %d): %d, want %d", x[1], x[0], got, x[2])
		}
	}
}

func TestP302AgainstBigNumbers(t *testing.T) {
	thousand := big.NewInt(1000)
	for _, a := range edges {
		if got, want := Cap(a), capOf(big.NewInt(int64(a))); got != want {
			t.Errorf("Cap(%d): %d, want %d", a, got, want)
		}
		for _, b := range edges {
			sum := new(big.Int).Add(capped(a), capped(b))
			if got, want := Add(a, b), capOf(sum); got != want {
				t.Errorf("Add(%d, %d): %d, want %d", a, b, got, want)
			}
			product := new(big.Int).Mul(capped(a), capped(b))
			if got, want := Times(a, b), capOf(product.Quo(product, thousand)); got != want {
				t.Errorf("Times(%d, %d): %d, want %d", a, b, got, want)
			}
		}
	}
}

func TestP303SameAnswers(t *testing.T) {
	texts := []string{"1.5", "", "-2147483.648", "x", ".5", strings.Repeat("9", 50)}
	type answer struct {
		n  int
		ok bool
	}
	var first []answer
	for round := range 3 {
		for i, s := range texts {
			n, ok := Of(s)
			if round == 0 {
				first = append(first, answer{n, ok})
			} else if first[i] != (answer{n, ok}) {
				t.Errorf("Of(%q): %d, %v in round %d, %v ahead of it", s, n, ok, round, first[i])
			}
		}
		for _, n := range edges {
			if Text(n) != Text(n) || Cap(n) != Cap(n) || Add(n, 5) != Add(n, 5) || Times(n, 5) != Times(n, 5) {
				t.Errorf("%d: not the same twice", n)
			}
		}
	}
}

func TestP303TextsStay(t *testing.T) {
	const long = "-0012.34567"
	kept := strings.Clone(long)
	part := kept[1:7]
	wantOf(t, part, 12300)
	wantOf(t, kept, -12345)
	if kept != long || part != "0012.3" {
		t.Errorf("behind Of: %q, %q", kept, part)
	}
	told := Text(-12345)
	for n := range 2000 {
		Text(n)
	}
	if told != "-12.345" {
		t.Errorf("an answer was turned: %q", told)
	}
}

func FuzzP301(f *testing.F) {
	for _, s := range []string{"", "1", "-1.2345", ".5", "1.", "+-1", "99999999999"} {
		f.Add(s)
	}
	f.Fuzz(func(t *testing.T, s string) {
		n, ok := Of(s)
		if n < -most || n > most || !ok && n != 0 {
			t.Errorf("Of(%q): %d, %v", s, n, ok)
		}
		if again, right := Of(Text(n)); !right || again != n {
			t.Errorf("Of(Text(%d)): %d, %v", n, again, right)
		}
	})
}
