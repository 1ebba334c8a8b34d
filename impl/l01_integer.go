package impl

import "strconv"

// MaxValue is the largest integer that the encodings of this module carry.
const MaxValue = 1000000000000

func FormatInt(n int) string {
	return strconv.Itoa(n)
}

func ParseInt(s string) (int, bool) {
	n := 0
	for i := 0; i < len(s); i++ {
		if !appendDigit(&n, s[i]) {
			return 0, false
		}
	}
	// Only the text that FormatInt writes counts, so leading zeros and the empty string fail here.
	if FormatInt(n) != s {
		return 0, false
	}
	return n, true
}

// appendDigit refuses to go beyond MaxValue, so that no text is long enough to make n wrap around.
func appendDigit(n *int, digit byte) bool {
	if digit < '0' || digit > '9' {
		return false
	}
	longer := *n*10 + int(digit-'0')
	if longer > MaxValue {
		return false
	}
	*n = longer
	return true
}

func Min(a int, b int) int {
	return extreme(true, a, b)
}

func Max(a int, b int) int {
	return extreme(false, a, b)
}

// extreme takes its first number apart from the others because there is no extreme of none.
func extreme(least bool, first int, others ...int) int {
	best := first
	for _, n := range others {
		if (n < best) == least {
			best = n
		}
	}
	return best
}

func CeilDiv(a int, b int) int {
	if !InRange(a, 0, MaxValue) || !InRange(b, 1, MaxValue) {
		return 0
	}
	return (a + b - 1) / b
}

func Mod(p int, q int) int {
	if !InRange(q, 1, MaxValue) {
		return 0
	}
	remainder := p % q
	// Go's remainder has the sign of p.
	if remainder < 0 {
		remainder += q
	}
	return remainder
}

func InRange(n int, low int, high int) bool {
	return low <= n && n <= high
}
