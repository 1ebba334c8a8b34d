package tests

import (
	"math"
	"slices"
	"testing"

	"loop.example/g03009/impl"
)

// numbersFrom returns a function that gives numbers from 0 to n - 1 without any order, the same ones for the same seed.
func numbersFrom(seed int) func(n int) int {
	return func(n int) int {
		seed = (seed*1103515245 + 12345) % (1 << 31)
		return seed >> 8 % n
	}
}

// withSpare returns a copy of l with spare capacity, and a function that tells whether this or its spare capacity has changed.
func withSpare[T comparable](l []T, spare T) (roomy []T, isSame func() bool) {
	under := append(slices.Clone(l), spare, spare, spare)
	want := slices.Clone(under)
	return under[:len(l)], func() bool { return slices.Equal(under, want) }
}

// expectFreshInts fails if two results share memory.
func expectFreshInts(t *testing.T, result func() []int) {
	t.Helper()
	one, two := result(), result()
	want := slices.Clone(two)
	spoilInts(one)
	if !slices.Equal(two, want) {
		t.Errorf("two results share memory: %v became %v", want, two)
	}
}

// shuffled returns the numbers 0 to n - 1 in some order.
func shuffled(n int, next func(n int) int) []int {
	l := speakers(0, n)
	for i := range l {
		j := next(i + 1)
		l[i], l[j] = l[j], l[i]
	}
	return l
}

// election is a number of choices and rankings of these.
type election struct {
	n int
	l [][]int
}

// sampleElections are all lists of few rankings of up to four choices, rings, and some of up to eight choices and twenty rankings.
func sampleElections() []election {
	samples := []election{}
	for n, length := range []int{0, 3, 5, 4, 2} {
		if n > 0 {
			shortLists(orders(n), length, func(l [][]int) { samples = append(samples, election{n, cloneLists(l)}) })
		}
	}
	for n := 1; n <= 8; n++ {
		samples = append(samples, election{n, nil}, election{n, ringOf(n)})
	}
	next := numbersFrom(17)
	for i := range 4000 {
		// few orders that are there often make choices even
		n, kinds, l := 1+i%8, [][]int{}, [][]int{}
		for range 1 + next(6) {
			kinds = append(kinds, shuffled(n, next))
		}
		for range next(21) {
			l = append(l, slices.Clone(kinds[next(len(kinds))]))
		}
		samples = append(samples, election{n, l})
	}
	return samples
}

// ringOf has one ranking for each choice, which goes from this one up to the last one, and on from 0.
func ringOf(n int) [][]int {
	ring := [][]int{}
	for first := range n {
		all := speakers(0, n)
		ring = append(ring, append(all[first:], all[:first]...))
	}
	for i := range ring {
		ring[i] = slices.Clip(slices.Clone(ring[i]))
	}
	return ring
}

// badElections have rankings that are not valid, for each reason and for two at once.
func badElections() []election {
	bad := []election{
		{0, nil}, {-1, nil}, {9, nil}, {math.MinInt64, nil}, {math.MaxInt64, nil},
		{0, [][]int{{}}}, {0, [][]int{nil, nil}}, {9, [][]int{speakers(0, 9)}}, {-1, [][]int{{0}}},
		{1, slices.Repeat([][]int{{0}}, 21)}, {8, slices.Repeat([][]int{speakers(0, 8)}, 21)}, {9, slices.Repeat([][]int{speakers(0, 9)}, 21)},
		{1, make([][]int, 1)}, {1, make([][]int, 21)}, {3, append(slices.Repeat([][]int{{0, 1, 2}}, 20), []int{0, 1, 1})},
	}
	for _, l := range badRankings() {
		fine := []int{2, 0, 1}
		bad = append(bad, election{3, [][]int{l}}, election{3, [][]int{fine, l}}, election{3, [][]int{l, fine}}, election{3, [][]int{fine, l, fine}})
	}
	return bad
}

// badRankings are lists that are no rankings of three choices.
func badRankings() [][]int {
	return [][]int{
		nil, {}, {0}, {0, 1}, {2, 1}, {0, 1, 2, 3}, {0, 1, 2, 2}, {0, 1, 2, 0}, {0, 1, 1}, {1, 1, 1}, {2, 0, 2}, {0, 0, 1},
		{0, 1, 3}, {3, 1, 2}, {1, 2, 3}, {-1, 0, 1}, {0, -1, 2}, {0, 1, math.MaxInt64}, {math.MinInt64, 1, 2}, {0, 1, 1 << 32}, {0, 3, 3}, {9, 9},
	}
}

// firstPlace returns at which place a choice is, or -1.
func firstPlace(choices []int, choice int) int {
	for place := range choices {
		if choices[place] == choice {
			return place
		}
	}
	return -1
}

// prefersTo says anew how many rankings have a before b.
func prefersTo(l [][]int, a int, b int) int {
	count := 0
	for _, choices := range l {
		behindA := false
		for _, choice := range choices {
			if choice == b && behindA {
				count++
			}
			behindA = behindA || choice == a
		}
	}
	return count
}

// truePairWinner says anew who is preferred to each other one.
func truePairWinner(e election) int {
	winners := []int{}
	for a := range e.n {
		beaten := 0
		for b := range e.n {
			if prefersTo(e.l, a, b) > prefersTo(e.l, b, a) {
				beaten++
			}
		}
		if beaten == e.n-1 {
			winners = append(winners, a)
		}
	}
	if len(winners) != 1 {
		return -1
	}
	return winners[0]
}

// trueRunOff says anew who is left, by rankings out of which choices are struck.
func trueRunOff(n int, l [][]int) int {
	left := cloneLists(l)
	out := make([]bool, n)
	for range n - 1 {
		firsts := make([]int, n)
		for _, choices := range left {
			firsts[choices[0]]++
		}
		worst := -1
		for choice := n - 1; choice >= 0; choice-- {
			if !out[choice] && (worst < 0 || firsts[choice] < firsts[worst]) {
				worst = choice
			}
		}
		out[worst] = true
		for i := range left {
			left[i] = slices.DeleteFunc(left[i], func(choice int) bool { return choice == worst })
		}
	}
	return slices.Index(out, false)
}

func TestIsRanking(t *testing.T) {
	for n := -1; n <= 5; n++ {
		allLists([]int{0, 1, 2, 3, -1}, 5, func(l []int) {
			sorted := slices.Clone(l)
			slices.Sort(sorted)
			want := n >= 1 && slices.Equal(sorted, speakers(0, n))
			if got := impl.IsRanking(l, n); got != want {
				t.Errorf("IsRanking(%v, %d) is %v", l, n, got)
			}
		})
	}
	next := numbersFrom(1)
	for n := range 12 {
		for range 50 {
			l := shuffled(n, next)
			if got := impl.IsRanking(l, n); got != (n >= 1 && n <= 8) {
				t.Errorf("IsRanking(%v, %d) is %v", l, n, got)
			}
			if impl.IsRanking(l, n+1) || impl.IsRanking(l, n-1) {
				t.Errorf("%v is a ranking of more or fewer choices", l)
			}
			if n > 1 {
				l[next(n)] = l[next(n)]
				sorted := slices.Sorted(slices.Values(l))
				if got := impl.IsRanking(l, n); got != (n <= 8 && len(slices.Compact(sorted)) == n) {
					t.Errorf("IsRanking(%v, %d) is %v", l, n, got)
				}
			}
		}
	}
	for _, n := range []int{math.MinInt64, -1, 0, 9, math.MaxInt64} {
		if impl.IsRanking(nil, n) || impl.IsRanking([]int{0}, n) || impl.IsRanking(speakers(0, 9), n) {
			t.Errorf("there is a ranking of %d choices", n)
		}
	}
	for _, l := range badRankings() {
		if impl.IsRanking(l, 3) {
			t.Errorf("%v is a ranking", l)
		}
	}
}

func TestAreRankings(t *testing.T) {
	for _, e := range sampleElections() {
		if !impl.AreRankings(e.l, e.n) || len(e.l) > 0 && (impl.AreRankings(e.l, e.n+1) || impl.AreRankings(e.l, e.n-1)) {
			t.Errorf("%v are no rankings of %d choices, or of others, too", e.l, e.n)
		}
	}
	for _, e := range badElections() {
		if impl.AreRankings(e.l, e.n) {
			t.Errorf("%v are rankings of %d choices", e.l, e.n)
		}
	}
	for n := -1; n <= 10; n++ {
		for count := range 25 {
			l := slices.Repeat([][]int{speakers(0, max(n, 0))}, count)
			if got := impl.AreRankings(l, n); got != (n >= 1 && n <= 8 && count <= 20) {
				t.Errorf("AreRankings of %d rankings of %d choices is %v", count, n, got)
			}
		}
	}
}

func TestPrefer(t *testing.T) {
	for _, e := range sampleElections() {
		for a := -1; a <= e.n; a++ {
			for b := -1; b <= e.n; b++ {
				got := impl.Prefer(e.l, a, b)
				if want := prefersTo(e.l, a, b); got != want {
					t.Errorf("Prefer(%v, %d, %d) is %d, want %d", e.l, a, b, got, want)
				}
				if there := a != b && min(a, b) >= 0 && max(a, b) < e.n; there && got+impl.Prefer(e.l, b, a) != len(e.l) || !there && got != 0 {
					t.Errorf("Prefer(%v, %d, %d) is %d, and %d the other way round", e.l, a, b, got, impl.Prefer(e.l, b, a))
				}
			}
		}
	}
}

func TestPreferInListsThatAreNoRankings(t *testing.T) {
	l := [][]int{{5}, nil, {7, 5, math.MaxInt64}, {5, 7}, {-3, 7}, {7, -3, 0, 5}, {math.MaxInt64, 100, 5, 2, 8, 9, 10, 11, 12, 7}}
	for _, c := range []struct{ a, b, want int }{
		{5, 7, 2}, {7, 5, 2}, {7, -3, 1}, {-3, 7, 1}, {5, math.MaxInt64, 1}, {math.MaxInt64, 5, 1}, {7, math.MaxInt64, 1}, {math.MaxInt64, 7, 1},
		{5, 5, 0}, {7, 7, 0}, {0, 5, 1}, {5, 0, 0}, {5, 4, 0}, {4, 5, 0}, {4, 4, 0}, {4, 3, 0}, {-1, 5, 0}, {5, -1, 0}, {100, 12, 1},
	} {
		if got := impl.Prefer(l, c.a, c.b); got != c.want {
			t.Errorf("Prefer(%v, %d, %d) is %d, want %d", l, c.a, c.b, got, c.want)
		}
	}
	many := slices.Repeat([][]int{{1, 0}}, 50)
	if impl.Prefer(many, 1, 0) != 50 || impl.Prefer(many, 0, 1) != 0 || impl.Prefer(nil, 0, 1) != 0 {
		t.Errorf("Prefer of fifty lists is %d", impl.Prefer(many, 1, 0))
	}
}

func TestSampleElections(t *testing.T) {
	for _, e := range sampleElections() {
		if got, want := impl.PairWinner(e.l, e.n), truePairWinner(e); got != want {
			t.Errorf("PairWinner(%v, %d) is %d, want %d", e.l, e.n, got, want)
		}
		if got, want := impl.RunOff(e.l, e.n), trueRunOff(e.n, e.l); got != want {
			t.Errorf("RunOff(%v, %d) is %d, want %d", e.l, e.n, got, want)
		}
		want := make([]int, e.n)
		for _, choices := range e.l {
			for choice := range want {
				want[choice] += len(choices[firstPlace(choices, choice)+1:])
			}
		}
		if got := impl.PlacePoints(e.l, e.n); !slices.Equal(got, want) {
			t.Errorf("PlacePoints(%v, %d) is %v, want %v", e.l, e.n, got, want)
		}
	}
}

func TestWhoIsFirstForMoreThanHalfWins(t *testing.T) {
	wins, even := 0, 0
	for _, e := range sampleElections() {
		for choice := range e.n {
			firsts := 0
			for _, choices := range e.l {
				if choices[0] == choice {
					firsts++
				}
			}
			if 2*firsts > len(e.l) {
				wins++
				if impl.PairWinner(e.l, e.n) != choice || impl.RunOff(e.l, e.n) != choice {
					t.Errorf("%d is first for %d of %v, but %d and %d win", choice, firsts, e.l, impl.PairWinner(e.l, e.n), impl.RunOff(e.l, e.n))
				}
			}
			if 2*firsts == len(e.l) && impl.PairWinner(e.l, e.n) != choice {
				even++
			}
		}
	}
	if wins < 1000 || even < 100 {
		t.Errorf("%d samples have a choice that is first for more than half, and in %d one is first for just half and does not win", wins, even)
	}
	// just half do not suffice
	half := [][]int{{0, 1, 2}, {0, 2, 1}, {1, 2, 0}, {2, 1, 0}}
	if impl.PairWinner(half, 3) != -1 {
		t.Errorf("PairWinner(%v, 3) is %d", half, impl.PairWinner(half, 3))
	}
}

func TestRingsOfPreferences(t *testing.T) {
	for n := 3; n <= 8; n++ {
		ring := ringOf(n)
		if impl.PairWinner(ring, n) != -1 || impl.RunOff(ring, n) != 0 {
			t.Errorf("%d and %d win in %v", impl.PairWinner(ring, n), impl.RunOff(ring, n), ring)
		}
		for a := range n {
			b := (a + 1) % n
			if impl.Prefer(ring, a, b) != n-1 || impl.Prefer(ring, b, a) != 1 {
				t.Errorf("Prefer(%v, %d, %d) is %d", ring, a, b, impl.Prefer(ring, a, b))
			}
		}
		if got := impl.PlacePoints(ring, n); !slices.Equal(got, slices.Repeat([]int{n * (n - 1) / 2}, n)) {
			t.Errorf("PlacePoints(%v) is %v", ring, got)
		}
		// a ring behind one who is first for all, and one before one who is last for all
		behind, before := [][]int{}, [][]int{}
		for _, choices := range ringOf(n - 1) {
			behind = append(behind, append([]int{n - 1}, choices...))
			before = append(before, append(slices.Clone(choices), n-1))
		}
		if impl.PairWinner(behind, n) != n-1 || impl.RunOff(behind, n) != n-1 {
			t.Errorf("%d and %d win in %v", impl.PairWinner(behind, n), impl.RunOff(behind, n), behind)
		}
		if n > 3 && impl.PairWinner(before, n) != -1 || impl.RunOff(before, n) != 0 {
			t.Errorf("%d and %d win in %v", impl.PairWinner(before, n), impl.RunOff(before, n), before)
		}
	}
}

func TestElections(t *testing.T) {
	for _, c := range []struct {
		n      int
		l      [][]int
		pair   int
		runOff int
		points []int
	}{
		{1, nil, 0, 0, []int{0}},
		{1, [][]int{{0}}, 0, 0, []int{0}},
		{1, slices.Repeat([][]int{{0}}, 20), 0, 0, []int{0}},
		{2, nil, -1, 0, []int{0, 0}},
		{2, [][]int{{0, 1}, {1, 0}}, -1, 0, []int{1, 1}},
		{2, [][]int{{1, 0}}, 1, 1, []int{0, 1}},
		{8, nil, -1, 0, make([]int, 8)},
		// 1 is the second one for all, beats each other one, and is taken out at once
		{3, [][]int{{0, 1, 2}, {0, 1, 2}, {2, 1, 0}, {2, 1, 0}, {1, 0, 2}}, 1, 0, []int{5, 6, 4}},
		// those behind a choice that is taken out count for the next one that is left
		{3, [][]int{{0, 1, 2}, {0, 1, 2}, {1, 2, 0}, {2, 1, 0}, {1, 0, 2}}, 1, 1, []int{5, 7, 3}},
		// of 1, 2 and 3, which are first for one each, the greatest one is taken out first
		{4, [][]int{{0, 1, 2, 3}, {0, 1, 2, 3}, {1, 2, 3, 0}, {2, 1, 3, 0}, {3, 2, 1, 0}}, 1, 2, []int{6, 10, 9, 5}},
		{8, slices.Repeat([][]int{{7, 6, 5, 4, 3, 2, 1, 0}}, 20), 7, 7, []int{0, 20, 40, 60, 80, 100, 120, 140}},
	} {
		if got := impl.PairWinner(c.l, c.n); got != c.pair {
			t.Errorf("PairWinner(%v, %d) is %d, want %d", c.l, c.n, got, c.pair)
		}
		if got := impl.RunOff(c.l, c.n); got != c.runOff {
			t.Errorf("RunOff(%v, %d) is %d, want %d", c.l, c.n, got, c.runOff)
		}
		if got := impl.PlacePoints(c.l, c.n); !slices.Equal(got, c.points) {
			t.Errorf("PlacePoints(%v, %d) is %v, want %v", c.l, c.n, got, c.points)
		}
	}
}

func TestRunOffIsTheSameEachTime(t *testing.T) {
	next := numbersFrom(3)
	for range 100 {
		l := [][]int{}
		for range next(4) {
			l = append(l, shuffled(8, next))
		}
		want := impl.RunOff(l, 8)
		for range 20 {
			if got := impl.RunOff(l, 8); got != want {
				t.Errorf("RunOff(%v, 8) is %d and %d", l, got, want)
			}
		}
	}
}

func TestElectionsThatAreNotValid(t *testing.T) {
	for _, e := range badElections() {
		if impl.PairWinner(e.l, e.n) != -1 || impl.RunOff(e.l, e.n) != -1 || len(impl.PlacePoints(e.l, e.n)) != 0 {
			t.Errorf("%d and %d win in %v with points %v", impl.PairWinner(e.l, e.n), impl.RunOff(e.l, e.n), e.l, impl.PlacePoints(e.l, e.n))
		}
	}
}

func TestRankFunctionsShareNoMemory(t *testing.T) {
	for i, e := range slices.Concat(sampleElections(), badElections()) {
		if i%5 != 0 && len(e.l) > 2 {
			continue
		}
		roomy, expectSame := spaciousLists(e.l)
		expectFreshInts(t, func() []int { return impl.PlacePoints(roomy, e.n) })
		impl.AreRankings(roomy, e.n)
		impl.Prefer(roomy, 0, 1)
		impl.PairWinner(roomy, e.n)
		impl.RunOff(roomy, e.n)
		for _, choices := range roomy {
			impl.IsRanking(choices, e.n)
		}
		expectSame(t)
	}
}
