package tests

import (
	"math"
	"slices"
	"testing"

	"loop.example/g03009/impl"
)

// answersIn says anew what the one who proposed can answer to a claim.
func answersIn(g impl.Graph, used []int, claim int) []int {
	l := []int{}
	for a := range g.N {
		if attacksIn(g, a, claim) && !slices.Contains(used, a) {
			l = append(l, a)
		}
	}
	return l
}

// winsWith plays the game line by line: it reports whether the one who proposed wins by putting a claim.
func winsWith(g impl.Graph, used []int, claim int) bool {
	now := append(slices.Clone(used), claim)
	return !slices.ContainsFunc(answersIn(g, nil, claim), func(doubt int) bool {
		return bestOf(g, now, doubt) == -1
	})
}

func bestOf(g impl.Graph, used []int, claim int) int {
	for _, answer := range answersIn(g, used, claim) {
		if winsWith(g, used, answer) {
			return answer
		}
	}
	return -1
}

// usedLists are lists of used claims of all kinds: in any order, more than once, and with numbers that are no claims.
func usedLists() [][]int {
	l := [][]int{nil, {}, {-1}, {10}, {64}, {math.MinInt64, math.MaxInt64}, {2, 1}, {1, 1, 1}, {2, -1, 0, 70}, {9, 8, 7, 6, 5, 4, 3, 2, 1, 0}}
	for mask := 1; mask < 16; mask++ {
		l = append(l, maskedSet(mask))
	}
	return l
}

// badLines are no lines of any graph with n claims, for want of a first claim of it.
func badLines(n int) [][]int {
	return [][]int{nil, {}, {-1}, {n}, {n + 1}, {16}, {64}, {math.MinInt64}, {math.MaxInt64}, {-1, 0}, {n, 0}, {n, n}}
}

func TestGamesOfAChain(t *testing.T) {
	// 0 attacks 1, which attacks 2, which attacks 3; 4 attacks itself and 5
	g := graphOf(6, [2]int{0, 1}, [2]int{1, 2}, [2]int{2, 3}, [2]int{4, 4}, [2]int{4, 5})
	for c, want := range []bool{true, false, true, false, false, false, false} {
		if got := impl.CanWin(g, c); got != want {
			t.Errorf("CanWin of %d is %v", c, got)
		}
	}
	cases := []struct {
		used  []int
		claim int
		want  int
	}{
		{[]int{2}, 1, 0},
		{nil, 1, 0},
		{[]int{0}, 1, -1},    // the only answer was used
		{[]int{2, 0}, 1, -1}, // likewise
		{[]int{3}, 2, -1},    // 1 could be answered, but loses
		{nil, 0, -1},         // nobody attacks 0
		{nil, 4, -1},         // 4 can be answered by itself, but only once
		{[]int{4}, 4, -1},
		{[]int{5}, 4, -1},
		{nil, 6, -1},
		{nil, -1, -1},
	}
	for _, c := range cases {
		if got := impl.BestAnswer(g, c.used, c.claim); got != c.want {
			t.Errorf("BestAnswer with %v to %d is %d, want %d", c.used, c.claim, got, c.want)
		}
	}
}

func TestBestAnswerIsTheLeastThatWins(t *testing.T) {
	// 1, 2 and 4 attack 0. 1 is attacked by 3; 2 and 4 by nobody.
	g := graphOf(5, [2]int{1, 0}, [2]int{2, 0}, [2]int{3, 1}, [2]int{4, 0})
	for _, c := range []struct {
		used []int
		want int
	}{{nil, 2}, {[]int{1}, 2}, {[]int{2}, 4}, {[]int{2, 4}, -1}, {[]int{4, 3}, 2}, {[]int{1, 2, 4}, -1}} {
		if got := impl.BestAnswer(g, c.used, 0); got != c.want {
			t.Errorf("BestAnswer with %v is %d, want %d", c.used, got, c.want)
		}
	}
	// Only 0 attacks 1, which attacks 2: where 0 was used, 2 can still be put, but loses later.
	later := graphOf(5, [2]int{0, 1}, [2]int{1, 2}, [2]int{2, 3}, [2]int{3, 4})
	if impl.BestAnswer(later, nil, 3) != 2 || impl.BestAnswer(later, []int{0}, 3) != -1 || !slices.Equal(impl.AnswersTo(later, []int{0}, 3), []int{2}) {
		t.Error("an answer that needs a used claim later wins")
	}
}

func TestOneCanWinJustAboutWhatStandsInAnyCase(t *testing.T) {
	for _, g := range sampleGraphs() {
		grounded := impl.Grounded(g)
		for _, c := range nearClaims(g) {
			if got := impl.CanWin(g, c); got != slices.Contains(grounded, c) {
				t.Errorf("CanWin(%v, %d) is %v, and %v stands in any case", g, c, got, grounded)
			}
		}
	}
	for mask := 0; mask < 1<<16; mask += 7 {
		g := maskedGraph(4, mask)
		for c := range 4 {
			if got := impl.CanWin(g, c); got != slices.Contains(impl.Grounded(g), c) {
				t.Errorf("CanWin(%v, %d) is %v", g, c, got)
			}
		}
	}
}

func TestGamesWithTooManyLines(t *testing.T) {
	// The bits of each number are those that attack the claim. Played line by line, the game about claim 9 takes more
	// than forty thousand million turns.
	g := impl.Graph{N: 10}
	for c, attackers := range []int{505, 1005, 891, 1023, 335, 991, 725, 879, 0, 891} {
		for _, a := range maskedSet(attackers) {
			g.Attacks = append(g.Attacks, []int{a, c})
		}
	}
	slices.SortFunc(g.Attacks, slices.Compare)
	for c := range 10 {
		if got := impl.CanWin(g, c); got != slices.Contains(impl.Grounded(g), c) {
			t.Errorf("CanWin of %d is %v", c, got)
		}
		for _, used := range usedLists() {
			impl.BestAnswer(g, used, c)
		}
	}
}

func TestAnswersOfSampleGraphs(t *testing.T) {
	for _, g := range sampleGraphs() {
		for _, used := range usedLists() {
			for _, c := range nearClaims(g) {
				if got, want := impl.AnswersTo(g, used, c), answersIn(g, used, c); !slices.Equal(got, want) {
					t.Fatalf("AnswersTo(%v, %v, %d) is %v, want %v", g, used, c, got, want)
				}
				if g.N > 4 && len(g.Attacks) > 25 {
					continue
				}
				if got, want := impl.BestAnswer(g, used, c), bestOf(g, used, c); got != want {
					t.Fatalf("BestAnswer(%v, %v, %d) is %d, want %d", g, used, c, got, want)
				}
			}
		}
	}
}

func TestOneCanWinJustIfEachDoubtHasABestAnswer(t *testing.T) {
	for _, g := range sampleGraphs() {
		for c := range g.N {
			lost := slices.ContainsFunc(impl.AttackersOf(g, c), func(doubt int) bool {
				return impl.BestAnswer(g, []int{c}, doubt) == -1
			})
			if impl.CanWin(g, c) == lost {
				t.Errorf("CanWin(%v, %d) is %v", g, c, !lost)
			}
		}
	}
}

// trueLine says anew whether a list is a line.
func trueLine(g impl.Graph, line []int) bool {
	if len(line) == 0 || line[0] < 0 || line[0] >= g.N {
		return false
	}
	for i := 1; i < len(line); i++ {
		if !attacksIn(g, line[i], line[i-1]) {
			return false
		}
		if i%2 == 0 && slices.Contains(usedOf(line[:i]), line[i]) {
			return false
		}
	}
	return true
}

func usedOf(line []int) []int {
	used := []int{}
	for i, c := range line {
		if i%2 == 0 {
			used = append(used, c)
		}
	}
	return used
}

func trueWinner(g impl.Graph, line []int) string {
	if !trueLine(g, line) {
		return ""
	}
	last := line[len(line)-1]
	switch {
	case len(line)%2 == 1 && len(answersIn(g, nil, last)) == 0:
		return "first"
	case len(line)%2 == 0 && len(answersIn(g, usedOf(line), last)) == 0:
		return "second"
	default:
		return "none"
	}
}

func expectLine(t *testing.T, g impl.Graph, line []int, is bool, winner string) {
	t.Helper()
	if got, won := impl.IsLine(g, line), impl.WinnerOf(g, line); got != is || won != winner {
		t.Errorf("in %v, the line %v is one: %v, and won by %q, want %v and %q", g, line, got, won, is, winner)
	}
}

func TestKnownLines(t *testing.T) {
	chain := graphOf(6, [2]int{0, 1}, [2]int{1, 2}, [2]int{2, 3}, [2]int{4, 4}, [2]int{4, 5})
	pair := graphOf(2, [2]int{0, 1}, [2]int{1, 0})
	cases := []struct {
		g      impl.Graph
		line   []int
		is     bool
		winner string
	}{
		{chain, []int{2}, true, "none"},
		{chain, []int{2, 1}, true, "none"},
		{chain, []int{2, 1, 0}, true, "first"},
		{chain, []int{0}, true, "first"},
		{chain, []int{1, 0}, true, "second"},
		{chain, []int{3, 2, 1, 0}, true, "second"},
		{chain, []int{4}, true, "none"},
		{chain, []int{4, 4}, true, "second"}, // it is its only answer, and used
		{chain, []int{4, 4, 4}, false, ""},
		{chain, []int{5, 4, 4}, true, "none"}, // 4 is used by the other one, too
		{chain, []int{5, 4, 4, 4}, true, "second"},
		{chain, []int{2, 0}, false, ""},
		{chain, []int{2, 3}, false, ""}, // the wrong way round
		{chain, []int{0, 0}, false, ""},
		{chain, []int{2, 1, 0, 5}, false, ""},
		{pair, []int{0, 1}, true, "second"}, // 0 was used
		{pair, []int{0, 1, 0}, false, ""},
		{pair, []int{1}, true, "none"},
		{graphOf(3, [2]int{0, 1}, [2]int{1, 0}, [2]int{2, 1}), []int{0, 1}, true, "none"}, // 2 was not used
		{graphOf(3, [2]int{0, 1}, [2]int{1, 0}, [2]int{2, 1}), []int{0, 1, 2}, true, "first"},
	}
	for _, c := range cases {
		expectLine(t, c.g, c.line, c.is, c.winner)
	}
}

func TestAllShortLines(t *testing.T) {
	for _, g := range sampleGraphs() {
		if g.N > 5 {
			continue
		}
		var extend func(line []int, more int)
		extend = func(line []int, more int) {
			expectLine(t, g, line, trueLine(g, line), trueWinner(g, line))
			for c := -1; c <= g.N && more > 0; c++ {
				extend(append(line[:len(line):len(line)], c), more-1)
			}
		}
		extend(nil, 4)
	}
}

// TestTheLongestLines has the second one say the same thing ever again, which only the first one may not.
func TestTheLongestLines(t *testing.T) {
	for n := 1; n <= 10; n++ {
		g := maskedGraph(n, -1)
		line := []int{}
		for c := range n {
			line = append(line, c)
			expectLine(t, g, line, true, "none")
			line = append(line, 0)
			expectLine(t, g, line, true, map[bool]string{true: "second", false: "none"}[c == n-1])
		}
		if len(line) != impl.LongestGame(g) {
			t.Errorf("LongestGame of the full graph with %d claims is %d, and there is a line of %d", n, impl.LongestGame(g), len(line))
		}
		for c := -1; c <= n; c++ {
			expectLine(t, g, append(slices.Clone(line), c), false, "")
			expectLine(t, g, append(slices.Clone(line), c, 0), false, "")
		}
		expectLine(t, g, slices.Repeat(line, 50), false, "")
	}
}

func TestLongestGame(t *testing.T) {
	for _, g := range sampleGraphs() {
		if got := impl.LongestGame(g); got != 2*g.N {
			t.Errorf("LongestGame(%v) is %d", g, got)
		}
	}
	for _, g := range badGraphs() {
		if got := impl.LongestGame(g); got != 0 {
			t.Errorf("LongestGame(%v) is %d", g, got)
		}
	}
}

func TestListsThatAreNoLines(t *testing.T) {
	for _, g := range sampleGraphs() {
		for _, line := range badLines(g.N) {
			expectLine(t, g, line, false, "")
		}
		for c := range g.N {
			for _, other := range []int{-1, g.N, 64, math.MinInt64, math.MaxInt64} {
				expectLine(t, g, []int{c, other}, false, "")
			}
		}
	}
}

func TestGamesOfGraphsThatAreNotValid(t *testing.T) {
	for _, g := range badGraphs() {
		for _, c := range nearClaims(g) {
			if impl.CanWin(g, c) {
				t.Errorf("CanWin(%v, %d) is true", g, c)
			}
			for _, used := range usedLists() {
				if l, best := impl.AnswersTo(g, used, c), impl.BestAnswer(g, used, c); len(l) != 0 || best != -1 {
					t.Errorf("in %v, %d is answered by %v, and best by %d", g, c, l, best)
				}
			}
		}
		for _, line := range slices.Concat([][]int{{0}, {1, 0}, {0, 1}, {1, 0, 1}}, badLines(2)) {
			expectLine(t, g, line, false, "")
		}
	}
}

func TestGameFunctionsLeaveTheirArgumentsAlone(t *testing.T) {
	for _, g := range append(sampleGraphs(), badGraphs()...) {
		roomy, expectSame := spaciousGraph(g)
		for _, first := range [][]int{{}, {0}, {1, 0}, {2, 1, 0}, {0, 1, 2}, {1, 11}} {
			under := append(slices.Clone(first), -9, -9, -9)
			l := under[:len(first)]
			impl.CanWin(roomy, 1)
			impl.BestAnswer(roomy, l, 1)
			impl.IsLine(roomy, l)
			impl.WinnerOf(roomy, l)
			impl.LongestGame(roomy)
			one, two := impl.AnswersTo(roomy, l, 0), impl.AnswersTo(roomy, l, 0)
			want := slices.Clone(two)
			spoilInts(one)
			if !slices.Equal(two, want) {
				t.Errorf("two results of AnswersTo(%v, %v, 0) share memory", g, first)
			}
			if !slices.Equal(under, append(slices.Clone(first), -9, -9, -9)) {
				t.Errorf("the list %v became %v", first, under)
			}
		}
		expectSame(t)
	}
}
