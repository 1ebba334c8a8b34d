package tests

import (
	"math"
	"strconv"
	"strings"
	"testing"

	"loop.example/g03009/impl"
)

func TestMaxValue(t *testing.T) {
	if impl.MaxValue != 1000000000000 {
		t.Errorf("MaxValue is %d", impl.MaxValue)
	}
}

func TestFormatInt(t *testing.T) {
	cases := []struct {
		n    int
		want string
	}{
		{0, "0"},
		{7, "7"},
		{10, "10"},
		{120, "120"},
		{-1, "-1"},
		{-3, "-3"},
		{-100, "-100"},
		{impl.MaxValue, "1000000000000"},
		{-impl.MaxValue, "-1000000000000"},
		{math.MaxInt64, "9223372036854775807"},
		{math.MinInt64, "-9223372036854775808"},
	}
	for _, c := range cases {
		if got := impl.FormatInt(c.n); got != c.want {
			t.Errorf("FormatInt(%d) is %q, want %q", c.n, got, c.want)
		}
	}
}

func TestParseIntAccepts(t *testing.T) {
	cases := []struct {
		s    string
		want int
	}{
		{"0", 0},
		{"1", 1},
		{"9", 9},
		{"10", 10},
		{"17", 17},
		{"100", 100},
		{"1234567890", 1234567890},
		{"999999999999", 999999999999},
		{"1000000000000", impl.MaxValue},
	}
	for _, c := range cases {
		if got, ok := impl.ParseInt(c.s); !ok || got != c.want {
			t.Errorf("ParseInt(%q) is %d, %v, want %d, true", c.s, got, ok, c.want)
		}
	}
}

func expectNoInt(t *testing.T, s string) {
	t.Helper()
	if got, ok := impl.ParseInt(s); ok || got != 0 {
		t.Errorf("ParseInt(%.40q) is %d, %v, want 0, false", s, got, ok)
	}
}

func TestParseIntRejectsLeadingZeros(t *testing.T) {
	for _, s := range []string{"00", "000", "01", "017", "0017", "0100", "01000000000000", strings.Repeat("0", 10000), strings.Repeat("0", 10000) + "1"} {
		expectNoInt(t, s)
	}
}

func TestParseIntRejectsSignsAndTheEmptyString(t *testing.T) {
	for _, s := range []string{"", "-", "+", "-0", "+0", "-1", "+1", "-17", "+17", "--1", "1-", "1+", "-1000000000000"} {
		expectNoInt(t, s)
	}
}

func TestParseIntRejectsValuesBeyondMaxValue(t *testing.T) {
	for _, s := range []string{
		"1000000000001",
		"1000000000010",
		"9999999999999",
		"10000000000000",
		"9223372036854775807",
		"9223372036854775808",
		"18446744073709551616", // 2 to the power of 64, and 17 more: these wrap around to 0 and to 17
		"18446744073709551633",
		"340282366920938463463374607431768211473",
		strings.Repeat("9", 10000),
		"1" + strings.Repeat("0", 10000),
	} {
		expectNoInt(t, s)
	}
}

func TestParseIntRejectsWhatIsNoDecimal(t *testing.T) {
	for _, s := range []string{" ", " 1", "1 ", "1 2", "\t1", "1\n", "1\x00", "\x001", "x", "1x", "x1", "0x10", "0b1", "1_000", "1,000", "1.0", "1e3", "1/", "1:", "\xff", "1\xb9", "\u0661", "\uff11", "1\u0661", "NaN"} {
		expectNoInt(t, s)
	}
}

// isDecimal says anew what ParseInt accepts of texts that are too short to exceed MaxValue.
func isDecimal(s string) bool {
	for i := 0; i < len(s); i++ {
		if s[i] < '0' || s[i] > '9' {
			return false
		}
	}
	return s == "0" || s != "" && s[0] != '0'
}

func checkShortText(t *testing.T, s string) {
	t.Helper()
	if !isDecimal(s) {
		expectNoInt(t, s)
		return
	}
	want, err := strconv.Atoi(s)
	if got, ok := impl.ParseInt(s); err != nil || !ok || got != want {
		t.Errorf("ParseInt(%q) is %d, %v, want %d, true", s, got, ok, want)
	}
}

func TestParseIntOfAllShortTexts(t *testing.T) {
	for i := 0; i < 256; i++ {
		checkShortText(t, string([]byte{byte(i)}))
		for j := 0; j < 256; j++ {
			checkShortText(t, string([]byte{byte(i), byte(j)}))
		}
	}
	const signs = "0179+- ./:"
	for i := 0; i < len(signs); i++ {
		for j := 0; j < len(signs); j++ {
			for k := 0; k < len(signs); k++ {
				checkShortText(t, string([]byte{signs[i], signs[j], signs[k]}))
			}
		}
	}
}

func checkParseOfFormat(t *testing.T, n int) {
	t.Helper()
	got, ok := impl.ParseInt(impl.FormatInt(n))
	if inside := 0 <= n && n <= 1000000000000; inside && (!ok || got != n) || !inside && (ok || got != 0) {
		t.Errorf("ParseInt(FormatInt(%d)) is %d, %v", n, got, ok)
	}
}

func TestParseIntInvertsFormatInt(t *testing.T) {
	for n := -2000; n <= 2000; n++ {
		checkParseOfFormat(t, n)
		checkParseOfFormat(t, n+impl.MaxValue)
	}
	for power := 1; power <= impl.MaxValue; power *= 10 {
		for digit := 1; digit <= 9; digit++ {
			for d := -1; d <= 1; d++ {
				checkParseOfFormat(t, power*digit+d)
			}
		}
	}
	for _, n := range []int{math.MinInt64, math.MinInt64 + 1, math.MaxInt64 - 1, math.MaxInt64} {
		checkParseOfFormat(t, n)
	}
}

func TestMinAndMax(t *testing.T) {
	cases := []struct{ a, b, least, greatest int }{
		{1, 2, 1, 2},
		{2, -1, -1, 2},
		{-5, -4, -5, -4},
		{0, 0, 0, 0},
		{-3, -3, -3, -3},
		{0, 1, 0, 1},
		{math.MinInt64, math.MaxInt64, math.MinInt64, math.MaxInt64}, // their difference wraps around
		{math.MinInt64, 1, math.MinInt64, 1},
		{math.MaxInt64, -1, -1, math.MaxInt64},
		{math.MaxInt64, math.MaxInt64 - 1, math.MaxInt64 - 1, math.MaxInt64},
	}
	for _, c := range cases {
		for _, p := range [][2]int{{c.a, c.b}, {c.b, c.a}} {
			if got := impl.Min(p[0], p[1]); got != c.least {
				t.Errorf("Min(%d, %d) is %d, want %d", p[0], p[1], got, c.least)
			}
			if got := impl.Max(p[0], p[1]); got != c.greatest {
				t.Errorf("Max(%d, %d) is %d, want %d", p[0], p[1], got, c.greatest)
			}
		}
	}
}

func TestCeilDiv(t *testing.T) {
	const top = impl.MaxValue
	cases := []struct{ a, b, want int }{
		{7, 3, 3},
		{6, 3, 2},
		{1, 3, 1},
		{0, 1, 0},
		{0, top, 0},
		{1, 1, 1},
		{1, top, 1},
		{top, 1, top},
		{top, 2, top / 2},
		{top, top, 1},
		{top, top - 1, 2},
		{top - 1, top, 1},
		// beyond the ranges
		{-1, 1, 0},
		{-1, 2, 0},
		{-7, 3, 0},
		{top + 1, 1, 0},
		{top + 1, top, 0},
		{1, 0, 0},
		{0, 0, 0},
		{7, -3, 0},
		{-7, -3, 0},
		{7, top + 1, 0},
		{top, top + 1, 0},
		{math.MaxInt64, 1, 0},
		{math.MinInt64, 1, 0},
		{math.MinInt64, -1, 0},
		{1, math.MaxInt64, 0},
		{1, math.MinInt64, 0},
		{math.MaxInt64, math.MaxInt64, 0},
	}
	for _, c := range cases {
		if got := impl.CeilDiv(c.a, c.b); got != c.want {
			t.Errorf("CeilDiv(%d, %d) is %d, want %d", c.a, c.b, got, c.want)
		}
	}
}

func TestCeilDivIsTheLeastThatCovers(t *testing.T) {
	for a := 0; a <= 60; a++ {
		for b := 1; b <= 60; b++ {
			if n := impl.CeilDiv(a, b); n*b < a || n > 0 && (n-1)*b >= a || n < 0 {
				t.Errorf("CeilDiv(%d, %d) is %d", a, b, n)
			}
		}
	}
}

func TestMod(t *testing.T) {
	const top = impl.MaxValue
	cases := []struct{ p, q, want int }{
		{15, 7, 1},
		{0, 7, 0},
		{6, 7, 6},
		{7, 7, 0},
		{-1, 7, 6},
		{-6, 7, 1},
		{-7, 7, 0},
		{-8, 7, 6},
		{5, 1, 0},
		{-5, 1, 0},
		{top, top, 0},
		{top - 1, top, top - 1},
		{-1, top, top - 1},
		{-top, top, 0},
		{math.MaxInt64, top, 36854775807},
		{math.MinInt64, top, top - 36854775808},
		{math.MinInt64, 2, 0},
		{math.MinInt64, 3, 1},
		// beyond the range of q
		{3, 0, 0},
		{-3, 0, 0},
		{3, -1, 0},
		{15, -7, 0},
		{-15, -7, 0},
		{3, top + 1, 0},
		{-1, top + 1, 0},
		{3, math.MaxInt64, 0},
		{3, math.MinInt64, 0},
		{math.MinInt64, -1, 0},
	}
	for _, c := range cases {
		if got := impl.Mod(c.p, c.q); got != c.want {
			t.Errorf("Mod(%d, %d) is %d, want %d", c.p, c.q, got, c.want)
		}
	}
}

func TestModIsTheRemainderFromZeroUp(t *testing.T) {
	for p := -60; p <= 60; p++ {
		for q := 1; q <= 30; q++ {
			if r := impl.Mod(p, q); r < 0 || r >= q || (p-r)%q != 0 {
				t.Errorf("Mod(%d, %d) is %d", p, q, r)
			}
		}
	}
}

func TestInRange(t *testing.T) {
	cases := []struct {
		n, low, high int
		want         bool
	}{
		{2, 2, 3, true},
		{3, 2, 3, true},
		{1, 2, 3, false},
		{4, 2, 3, false},
		{5, 5, 5, true},
		{0, -1, 1, true},
		{-2, -1, 1, false},
		{2, 3, 1, false}, // nothing lies in a range that ends before it begins
		{3, 3, 1, false},
		{1, 3, 1, false},
		{math.MinInt64, math.MinInt64, math.MaxInt64, true},
		{math.MaxInt64, math.MinInt64, math.MaxInt64, true},
		{math.MinInt64, math.MinInt64 + 1, math.MaxInt64, false},
		{math.MaxInt64, math.MinInt64, math.MaxInt64 - 1, false},
		{math.MinInt64, 0, math.MaxInt64, false},
	}
	for _, c := range cases {
		if got := impl.InRange(c.n, c.low, c.high); got != c.want {
			t.Errorf("InRange(%d, %d, %d) is %v, want %v", c.n, c.low, c.high, got, c.want)
		}
	}
}
