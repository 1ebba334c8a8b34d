package tests

import (
	"math"
	"slices"
	"strings"
	"testing"

	"loop.example/g03009/impl"
)

// Short names for the signs.
const (
	not  = impl.FmNot
	and  = impl.FmAnd
	or   = impl.FmOr
	then = impl.FmThen
)

// reading is what a formula says, read from its end.
type reading struct {
	start int
	value bool
	text  string
	ok    bool
}

// readBack says anew what the formula that ends before a place says: its last sign is worked off last, so that what it
// takes lies before it, the second one next to it.
func readBack(f []int, end int, letters []bool) reading {
	if end == 0 {
		return reading{}
	}
	place := end - 1
	sign := f[place]
	switch sign {
	case 0, 1, 2, 3, 4, 5:
		return reading{place, sign < len(letters) && letters[sign], "abcdef"[sign : sign+1], true}
	case -1:
		taken := readBack(f, place, letters)
		return reading{taken.start, !taken.value, "!" + taken.text, taken.ok}
	case -2, -3, -4:
		second := readBack(f, place, letters)
		if !second.ok {
			return reading{}
		}
		first := readBack(f, second.start, letters)
		value := map[int]bool{-2: first.value && second.value, -3: first.value || second.value, -4: second.value || !first.value}[sign]
		return reading{first.start, value, "(" + first.text + map[int]string{-2: "&", -3: "|", -4: ">"}[sign] + second.text + ")", first.ok}
	}
	return reading{}
}

// trueFormula returns what the whole list says, and false for ok if it is no formula.
func trueFormula(f []int, letters []bool) reading {
	if len(f) > 24 {
		return reading{}
	}
	whole := readBack(f, len(f), letters)
	if !whole.ok || whole.start != 0 {
		return reading{}
	}
	return whole
}

// rowOf has the letter k true if the bit k of n is set.
func rowOf(n int) []bool {
	row := make([]bool, 6)
	for k := range row {
		row[k] = n>>k&1 == 1
	}
	return row
}

// lettersOf returns the letters of a list, each once.
func lettersOf(f []int) []int {
	l := []int{}
	for letter := range 6 {
		if slices.Contains(f, letter) {
			l = append(l, letter)
		}
	}
	return l
}

// allLists calls check with all lists of these signs that are at most so long.
func allLists(signs []int, length int, check func(f []int)) {
	var extend func(f []int)
	extend = func(f []int) {
		check(f)
		if len(f) == length {
			return
		}
		for _, sign := range signs {
			extend(append(f[:len(f):len(f)], sign))
		}
	}
	extend([]int{})
}

// someFormulas are all formulas of at most three signs and some longer ones, up to the limit.
func someFormulas() [][]int {
	l := [][]int{}
	allLists([]int{0, 1, 2, 3, 4, 5, not, and, or, then}, 3, func(f []int) {
		if trueFormula(f, nil).ok {
			l = append(l, slices.Clone(f))
		}
	})
	seed := 7
	next := func(n int) int {
		seed = (seed*1103515245 + 12345) % (1 << 31)
		return seed >> 12 % n
	}
	for length := 4; length <= 24; length++ {
		for range 40 {
			l = append(l, formulaOfLength(length, next))
		}
	}
	return l
}

// formulaOfLength puts signs together as next says.
func formulaOfLength(length int, next func(n int) int) []int {
	if length == 1 {
		return []int{next(6)}
	}
	if length == 2 || next(4) == 0 {
		return append(formulaOfLength(length-1, next), not)
	}
	first := 1 + next(length-2)
	return slices.Concat(formulaOfLength(first, next), formulaOfLength(length-1-first, next), []int{-2 - next(3)})
}

// badFormulas are lists that are no formulas, for each reason and for two at once.
func badFormulas() [][]int {
	return [][]int{
		nil,
		{},
		{6},
		{7},
		{-5},
		{math.MinInt64},
		{math.MaxInt64},
		{1 << 32},
		{not},
		{and},
		{or},
		{then},
		{0, and},
		{0, or},
		{0, then},
		{0, 1},
		{0, 0, 0},
		{not, 0},
		{0, and, 1},
		{0, 1, 6},
		{6, not},
		{0, 6, and},
		{0, -5, and},
		{6, 6, and},
		{0, 1, not},
		{0, 1, and, and},
		{0, 1, and, 2},
		{0, 1, -5},
		{0, and, 1, 2, or},
		{and, 0, 1},
		{0, 6, and, and, 1},
		slices.Repeat([]int{0}, 25),
		slices.Repeat([]int{0}, 24),
		slices.Concat([]int{0}, slices.Repeat([]int{not}, 24)),
		slices.Concat(slices.Repeat([]int{0}, 13), slices.Repeat([]int{and}, 12)),
		slices.Concat(slices.Repeat([]int{0}, 30), slices.Repeat([]int{9}, 30)),
		slices.Repeat([]int{not}, 5000),
	}
}

// expectNoFormula fails if a list is taken for a formula by any function.
func expectNoFormula(t *testing.T, f []int) {
	t.Helper()
	if impl.IsFormula(f) || impl.FormulaText(f) != "" || len(impl.LettersIn(f)) != 0 || len(impl.NotOf(f)) != 0 {
		t.Errorf("%v is taken for a formula: %q", f, impl.FormulaText(f))
	}
	for n := range 64 {
		if impl.Value(f, rowOf(n)) {
			t.Errorf("the value of %v is true", f)
		}
	}
	if impl.Value(f, nil) {
		t.Errorf("the value of %v is true without letters", f)
	}
	for _, op := range []int{and, or, then} {
		if len(impl.Join(f, []int{0}, op)) != 0 || len(impl.Join([]int{0}, f, op)) != 0 || len(impl.Join(f, f, op)) != 0 {
			t.Errorf("%v can be joined", f)
		}
	}
}

func TestKnownFormulas(t *testing.T) {
	cases := []struct {
		f       []int
		text    string
		letters []int
		rows    string // the values with the letters of the rows 0 to 7
	}{
		{[]int{0}, "a", []int{0}, "01010101"},
		{[]int{2}, "c", []int{2}, "00001111"},
		{[]int{5}, "f", []int{5}, "00000000"},
		{[]int{0, not}, "!a", []int{0}, "10101010"},
		{[]int{0, not, not}, "!!a", []int{0}, "01010101"},
		{[]int{0, 1, and}, "(a&b)", []int{0, 1}, "00010001"},
		{[]int{0, 1, or}, "(a|b)", []int{0, 1}, "01110111"},
		{[]int{0, 1, then}, "(a>b)", []int{0, 1}, "10111011"},
		{[]int{1, 0, then}, "(b>a)", []int{0, 1}, "11011101"},
		{[]int{0, 1, not, or, 2, then}, "((a|!b)>c)", []int{0, 1, 2}, "00101111"},
		{[]int{0, 1, 2, then, then}, "(a>(b>c))", []int{0, 1, 2}, "11101111"},
		{[]int{0, 1, then, 2, then}, "((a>b)>c)", []int{0, 1, 2}, "01001111"},
		{[]int{0, 0, not, and}, "(a&!a)", []int{0}, "00000000"},
		{[]int{5, 3, 1, 0, and, or, and}, "(f&(d|(b&a)))", []int{0, 1, 3, 5}, "00000000"},
		{[]int{0, 1, and, 2, 3, then, or, not}, "!((a&b)|(c>d))", []int{0, 1, 2, 3}, "00001110"},
	}
	for _, c := range cases {
		if !impl.IsFormula(c.f) || impl.FormulaText(c.f) != c.text || !slices.Equal(impl.LettersIn(c.f), c.letters) {
			t.Errorf("%v is %q with the letters %v, want %q and %v", c.f, impl.FormulaText(c.f), impl.LettersIn(c.f), c.text, c.letters)
		}
		for n, want := range c.rows {
			if got := impl.Value(c.f, rowOf(n)); got != (want == '1') {
				t.Errorf("the value of %q with %v is %v", c.text, rowOf(n), got)
			}
		}
	}
}

func TestAllShortLists(t *testing.T) {
	allLists([]int{-6, -5, -4, -3, -2, -1, 0, 1, 5, 6, 7}, 5, func(f []int) {
		row := rowOf(len(f)*11 + 2)
		want := trueFormula(f, row)
		if got := impl.IsFormula(f); got != want.ok {
			t.Fatalf("IsFormula(%v) is %v", f, got)
		}
		if got := impl.Value(f, row); got != want.value {
			t.Fatalf("Value(%v, %v) is %v", f, row, got)
		}
		if got := impl.FormulaText(f); got != want.text {
			t.Fatalf("FormulaText(%v) is %q, want %q", f, got, want.text)
		}
	})
}

func TestFormulasOfAllLengths(t *testing.T) {
	for _, f := range someFormulas() {
		if !impl.IsFormula(f) || !slices.Equal(impl.LettersIn(f), lettersOf(f)) {
			t.Errorf("%v is a formula: %v, with the letters %v", f, impl.IsFormula(f), impl.LettersIn(f))
		}
		if got, want := impl.FormulaText(f), trueFormula(f, nil).text; got != want {
			t.Errorf("FormulaText(%v) is %q, want %q", f, got, want)
		}
		for n := range 64 {
			if got := impl.Value(f, rowOf(n)); got != trueFormula(f, rowOf(n)).value {
				t.Errorf("Value(%v, %v) is %v", f, rowOf(n), got)
			}
		}
	}
}

func TestTheLongestFormulas(t *testing.T) {
	// The first one never has more than two values on the pile, and the second one has all twelve at once.
	left, right := []int{0}, []int{0}
	for k := 1; k < 12; k++ {
		left = append(left, k%6, []int{and, or, then}[k%3])
		right = slices.Concat([]int{k % 6}, right, []int{[]int{and, or, then}[k%3]})
	}
	nots := append([]int{3}, slices.Repeat([]int{not}, 22)...)
	for _, f := range [][]int{left, right, nots} {
		full := append(slices.Clone(f), not)
		if len(f) != 23 || !impl.IsFormula(f) || !slices.Equal(impl.NotOf(f), full) || !impl.IsFormula(full) {
			t.Errorf("a formula of %d signs, or its opposite, is not taken", len(f))
		}
		for n := range 64 {
			if impl.Value(f, rowOf(n)) != trueFormula(f, rowOf(n)).value || impl.Value(full, rowOf(n)) != trueFormula(full, rowOf(n)).value {
				t.Errorf("the value of %v or of its opposite with %v is wrong", f, rowOf(n))
			}
		}
		if impl.FormulaText(full) != "!"+impl.FormulaText(f) || impl.FormulaText(f) != trueFormula(f, nil).text {
			t.Errorf("the texts are %q and %q", impl.FormulaText(f), impl.FormulaText(full))
		}
		if len(impl.NotOf(full)) != 0 {
			t.Errorf("the opposite of %v has 25 signs", full)
		}
		expectNoFormula(t, append(slices.Clone(full), not))
	}
}

func TestListsThatAreNoFormulas(t *testing.T) {
	for _, f := range badFormulas() {
		expectNoFormula(t, f)
	}
}

func TestValueWithFewerOrMoreLetters(t *testing.T) {
	for letter := range 6 {
		for length := range 9 {
			letters := slices.Repeat([]bool{true}, length)
			if got := impl.Value([]int{letter}, letters); got != (letter < length) {
				t.Errorf("Value of the letter %d with %d true letters is %v", letter, length, got)
			}
			if got := impl.Value([]int{letter, not}, letters); got != (letter >= length) {
				t.Errorf("Value of the opposite of the letter %d with %d true letters is %v", letter, length, got)
			}
		}
	}
	// Those that are not there are false, as in a list that says so.
	for _, f := range someFormulas() {
		for length := range 6 {
			given, whole := rowOf(21)[:length], make([]bool, 6)
			copy(whole, given)
			if impl.Value(f, given) != impl.Value(f, whole) || impl.Value(f, append(whole, true, true, true)) != impl.Value(f, whole) {
				t.Errorf("Value of %v with %v is not that with %v", f, given, whole)
			}
		}
	}
}

func TestTheOppositeHasTheOppositeValue(t *testing.T) {
	for _, f := range someFormulas() {
		opposite := impl.NotOf(f)
		if len(f) == 24 {
			if len(opposite) != 0 {
				t.Errorf("the opposite of %v has 25 signs", f)
			}
			continue
		}
		if !slices.Equal(opposite, append(slices.Clone(f), not)) || !slices.Equal(impl.LettersIn(opposite), impl.LettersIn(f)) {
			t.Errorf("NotOf(%v) is %v", f, opposite)
		}
		for n := range 64 {
			if impl.Value(opposite, rowOf(n)) == impl.Value(f, rowOf(n)) {
				t.Errorf("%v and its opposite have the same value with %v", f, rowOf(n))
			}
		}
		if impl.Value(opposite, nil) == impl.Value(f, nil) {
			t.Errorf("%v and its opposite have the same value without letters", f)
		}
	}
}

func TestOppositesOfOneLetter(t *testing.T) {
	for letter := range 6 {
		f := []int{letter}
		for count := range 24 {
			for n := range 64 {
				if got, want := impl.Value(f, rowOf(n)), rowOf(n)[letter] == (count%2 == 0); got != want {
					t.Errorf("the value of %v with %v is %v", f, rowOf(n), got)
				}
			}
			if want := strings.Repeat("!", count) + "abcdef"[letter:letter+1]; impl.FormulaText(f) != want || !slices.Equal(impl.LettersIn(f), []int{letter}) {
				t.Errorf("the text of %v is %q with the letters %v, want %q", f, impl.FormulaText(f), impl.LettersIn(f), want)
			}
			f = impl.NotOf(f)
		}
		if len(f) != 0 {
			t.Errorf("there is a formula of 25 signs: %v", f)
		}
	}
}

func TestJoin(t *testing.T) {
	formulas := someFormulas()
	for i, a := range formulas {
		for _, b := range [][]int{{0}, {4, not}, formulas[(i*31+7)%len(formulas)], a} {
			for _, op := range []int{and, or, then} {
				want := slices.Concat(a, b, []int{op})
				if len(want) > 24 {
					want = nil
				}
				if got := impl.Join(a, b, op); !slices.Equal(got, want) || len(got) > 0 && !impl.IsFormula(got) {
					t.Errorf("Join(%v, %v, %d) is %v", a, b, op, got)
				}
			}
			for _, op := range []int{0, 1, 5, 6, not, -5, -6, math.MinInt64, math.MaxInt64} {
				if got := impl.Join(a, b, op); len(got) != 0 {
					t.Errorf("Join(%v, %v, %d) is %v", a, b, op, got)
				}
			}
		}
	}
}

func TestJoinUpToTheLimit(t *testing.T) {
	nots := func(length int) []int { return append([]int{1}, slices.Repeat([]int{not}, length-1)...) }
	for length := 1; length <= 24; length++ {
		for other := 1; other <= 24; other++ {
			got := impl.Join(nots(length), nots(other), then)
			if fits := length+other < 24; (len(got) == length+other+1) != fits || (len(got) == 0) == fits {
				t.Errorf("Join of %d and %d signs has %d", length, other, len(got))
			}
		}
	}
}

func TestJoinRejectsParts(t *testing.T) {
	// each two would be a formula together
	for _, c := range []struct{ a, b []int }{
		{[]int{0, 1}, []int{not}},
		{[]int{0, 1}, nil},
		{nil, []int{0, 1}},
		{[]int{0, 1}, []int{and, 2}},
		{[]int{0}, []int{not, 1}},
		{[]int{0, 1, 2}, []int{or}},
	} {
		if !impl.IsFormula(slices.Concat(c.a, c.b, []int{and})) || len(impl.Join(c.a, c.b, and)) != 0 {
			t.Errorf("Join(%v, %v, FmAnd) is %v", c.a, c.b, impl.Join(c.a, c.b, and))
		}
	}
	for _, a := range badFormulas() {
		for _, b := range append(badFormulas(), []int{0}, []int{0, 1, and}) {
			for _, op := range []int{and, or, then, not, 0, -5} {
				if len(impl.Join(a, b, op)) != 0 || len(impl.Join(b, a, op)) != 0 {
					t.Errorf("Join(%v, %v, %d) or the other way round is not empty", a, b, op)
				}
			}
		}
	}
}

func TestFormulaFunctionsLeaveTheirArgumentsAlone(t *testing.T) {
	for _, f := range append(someFormulas(), badFormulas()...) {
		under := append(slices.Clone(f), -99, -99, -99)
		roomy := under[:len(f)]
		letters := []bool{true, false, true, false, false}
		impl.Value(roomy, letters[:3])
		impl.FormulaText(roomy)
		for _, result := range []func() []int{
			func() []int { return impl.LettersIn(roomy) },
			func() []int { return impl.NotOf(roomy) },
			func() []int { return impl.Join(roomy, roomy, and) },
			func() []int { return impl.Join(roomy, []int{0}, or) },
			func() []int { return impl.Join([]int{0}, roomy, then) },
		} {
			one, two := result(), result()
			want := slices.Clone(two)
			spoilInts(one)
			if !slices.Equal(two, want) {
				t.Errorf("two results about %v share memory", f)
			}
		}
		if !slices.Equal(under, append(slices.Clone(f), -99, -99, -99)) || !slices.Equal(letters, []bool{true, false, true, false, false}) {
			t.Errorf("%v became %v, and the letters %v", f, under, letters)
		}
	}
}
