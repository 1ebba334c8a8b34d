package tests

import (
	"math"
	"slices"
	"testing"

	"loop.example/g03009/impl"
)

// expectFresh fails if two results share memory. It overwrites one of them with what no result has, its spare capacity
// included, so that whoever calls it can see whether an argument has changed by that.
func expectFresh[T comparable](t *testing.T, spoilt T, result func() []T) {
	t.Helper()
	one, two := result(), result()
	want := slices.Clone(two)
	one = one[:cap(one)]
	for i := range one {
		one[i] = spoilt
	}
	if !slices.Equal(two, want) {
		t.Errorf("two results share memory: %v became %v", want, two)
	}
}

// seedOrders has the seeds by their places, written out.
func seedOrders() map[int][]int {
	return map[int][]int{
		2:  {1, 2},
		4:  {1, 4, 2, 3},
		8:  {1, 8, 4, 5, 2, 7, 3, 6},
		16: {1, 16, 8, 9, 4, 13, 5, 12, 2, 15, 7, 10, 3, 14, 6, 11},
	}
}

// noBrackets are numbers that no bracket has.
func noBrackets() []int {
	l := []int{math.MinInt64, math.MinInt64 + 2, math.MaxInt64, 1 << 62, 1<<62 + 2, 1 << 32, 1<<32 + 2, 64, 128, 256, 1024}
	for n := -40; n <= 70; n++ {
		if _, is := seedOrders()[n]; !is {
			l = append(l, n)
		}
	}
	return l
}

// pairedUp pairs ids anew, two and two.
func pairedUp(ids []int) []impl.Pair {
	r := []impl.Pair{}
	for i := 1; i < len(ids); i += 2 {
		r = append(r, impl.Pair{First: ids[i-1], Second: ids[i]})
	}
	return r
}

// playedRounds plays a bracket with the given winner of each pair, and returns its rounds.
func playedRounds(t *testing.T, ids []int, wins func(p impl.Pair) int) [][]impl.Pair {
	t.Helper()
	rounds := [][]impl.Pair{}
	for r := impl.FirstRound(ids); len(r) > 0; {
		rounds = append(rounds, r)
		winners := []int{}
		for _, p := range r {
			winners = append(winners, wins(p))
		}
		r = impl.NextRound(r, winners)
	}
	return rounds
}

// winnersOf says with two numbers that always win, and otherwise the lesser one, who wins a pair.
func winnersOf(a int, b int) func(p impl.Pair) int {
	return func(p impl.Pair) int {
		for _, id := range []int{p.First, p.Second} {
			if id == a || id == b {
				return id
			}
		}
		return min(p.First, p.Second)
	}
}

// isPairOf reports whether two stand in a pair, in any order.
func isPairOf(p impl.Pair, a int, b int) bool {
	return p == impl.Pair{First: a, Second: b} || p == impl.Pair{First: b, Second: a}
}

func TestSeedOrder(t *testing.T) {
	for n, want := range seedOrders() {
		got := impl.SeedOrder(n)
		if !slices.Equal(got, want) {
			t.Errorf("SeedOrder(%d) is %v, want %v", n, got, want)
		}
		for i, seed := range got {
			if i%2 == 1 && got[i-1]+seed != n+1 {
				t.Errorf("in SeedOrder(%d) %d stands beside %d", n, got[i-1], seed)
			}
		}
		if half := impl.SeedOrder(n / 2); n > 2 {
			for i, seed := range half {
				if got[2*i] != seed {
					t.Errorf("SeedOrder(%d) is %v, and that of the half %v", n, got, half)
				}
			}
		}
	}
	for _, n := range noBrackets() {
		if got := impl.SeedOrder(n); len(got) != 0 {
			t.Errorf("SeedOrder(%d) is %v", n, got)
		}
	}
}

func TestRoundsOf(t *testing.T) {
	for n, want := range map[int]int{2: 1, 4: 2, 8: 3, 16: 4} {
		if got := impl.RoundsOf(n); got != want {
			t.Errorf("RoundsOf(%d) is %d, want %d", n, got, want)
		}
	}
	for _, n := range noBrackets() {
		if got := impl.RoundsOf(n); got != 0 {
			t.Errorf("RoundsOf(%d) is %d", n, got)
		}
	}
}

func TestFirstRound(t *testing.T) {
	for _, c := range []struct {
		ids  []int
		want []impl.Pair
	}{
		{[]int{1, 2}, []impl.Pair{{First: 1, Second: 2}}},
		{[]int{9, 0}, []impl.Pair{{First: 9, Second: 0}}},
		{[]int{math.MinInt64, math.MaxInt64}, []impl.Pair{{First: math.MinInt64, Second: math.MaxInt64}}},
		{[]int{50, 30, 20, 10}, []impl.Pair{{First: 50, Second: 10}, {First: 30, Second: 20}}},
		{[]int{-1, -2, 0, 7}, []impl.Pair{{First: -1, Second: 7}, {First: -2, Second: 0}}},
		{[]int{8, 7, 6, 5, 4, 3, 2, 1}, []impl.Pair{{First: 8, Second: 1}, {First: 5, Second: 4}, {First: 7, Second: 2}, {First: 6, Second: 3}}},
	} {
		if got := impl.FirstRound(c.ids); !slices.Equal(got, c.want) {
			t.Errorf("FirstRound(%v) is %v, want %v", c.ids, got, c.want)
		}
	}
	next := numbersFrom(23)
	for n, order := range seedOrders() {
		for range 50 {
			ids := []int{}
			for _, k := range shuffled(n, next) {
				ids = append(ids, 3*k-20)
			}
			placed := []int{}
			for _, seed := range order {
				placed = append(placed, ids[seed-1])
			}
			if got, want := impl.FirstRound(ids), pairedUp(placed); !slices.Equal(got, want) {
				t.Errorf("FirstRound(%v) is %v, want %v", ids, got, want)
			}
		}
	}
}

func TestFirstRoundsThatCannotBe(t *testing.T) {
	for _, n := range noBrackets() {
		if n < 0 || n > 300 {
			continue
		}
		if got := impl.FirstRound(speakers(1, n)); len(got) != 0 {
			t.Errorf("FirstRound of %d ids is %v", n, got)
		}
		// two reasons at once
		if got := impl.FirstRound(make([]int, n)); len(got) != 0 {
			t.Errorf("FirstRound of %d times the same is %v", n, got)
		}
	}
	if len(impl.FirstRound(nil)) != 0 {
		t.Errorf("FirstRound(nil) is %v", impl.FirstRound(nil))
	}
	for n := range seedOrders() {
		for i := range n {
			for j := range i {
				ids := speakers(1, n)
				ids[i] = ids[j]
				if got := impl.FirstRound(ids); len(got) != 0 {
					t.Errorf("FirstRound(%v) is %v", ids, got)
				}
			}
		}
	}
}

func TestNextRound(t *testing.T) {
	// all winners of brackets of eight
	for choice := range 16 {
		r, winners := impl.FirstRound([]int{80, 70, 60, 50, 40, 30, 20, 10}), []int{}
		for i, p := range r {
			winners = append(winners, []int{p.First, p.Second}[choice>>i&1])
		}
		want := []impl.Pair{{First: winners[0], Second: winners[1]}, {First: winners[2], Second: winners[3]}}
		if got := impl.NextRound(r, winners); !slices.Equal(got, want) {
			t.Errorf("NextRound(%v, %v) is %v, want %v", r, winners, got, want)
		}
	}
	// any even number of pairs goes on, also one that no bracket has, and with any ids
	r, winners := []impl.Pair{}, []int{}
	for count := range 60 {
		got := impl.NextRound(r, winners)
		want := pairedUp(winners)
		if count%2 == 1 {
			want = nil
		}
		if !slices.Equal(got, want) {
			t.Errorf("NextRound(%v, %v) is %v, want %v", r, winners, got, want)
		}
		p := impl.Pair{First: -3 * count, Second: 5 - 2*count}
		r, winners = append(r, p), append(winners, []int{p.First, p.Second}[count/2%2])
	}
}

func TestNextRoundsThatCannotBe(t *testing.T) {
	r := []impl.Pair{{First: 50, Second: 10}, {First: 30, Second: 20}}
	four := append(slices.Clone(r), impl.Pair{First: 60, Second: 70}, impl.Pair{First: 0, Second: 80})
	for _, c := range []struct {
		r       []impl.Pair
		winners []int
	}{
		{nil, nil}, {nil, []int{}}, {[]impl.Pair{}, nil},
		// no winner of the pair
		{r, []int{50, 50}}, {r, []int{10, 10}}, {r, []int{20, 30}}, {r, []int{30, 50}}, {r, []int{0, 20}}, {r, []int{10, 0}}, {r, []int{10, 40}}, {r, []int{math.MaxInt64, 20}}, {r, []int{-50, 20}},
		{four, []int{50, 30, 60, 81}}, {four, []int{50, 30, 0, 80}}, {four, []int{51, 30, 60, 80}},
		// not one for each pair
		{r, nil}, {r, []int{50}}, {r, []int{50, 30, 20}}, {r, []int{50, 30, 50, 30}}, {r, []int{50, 10}}, {four, []int{50, 30}}, {four, []int{50, 30, 60}}, {nil, []int{50}}, {nil, []int{50, 30}},
		// an odd number of pairs
		{r[:1], []int{50}}, {r[:1], []int{10}}, {four[:3], []int{50, 30, 60}},
		// two reasons at once
		{r[:1], []int{30}}, {r[:1], nil}, {r[:1], []int{50, 30}}, {r, []int{1, 2, 3}}, {four[:3], []int{50, 30}}, {four[:3], []int{50, 30, 61}}, {nil, []int{1}},
	} {
		if got := impl.NextRound(c.r, c.winners); len(got) != 0 {
			t.Errorf("NextRound(%v, %v) is %v", c.r, c.winners, got)
		}
	}
}

func TestMeetIn(t *testing.T) {
	for n := range seedOrders() {
		seeds := append(speakers(-3, n+8), math.MinInt64, math.MaxInt64)
		for _, a := range seeds {
			for _, b := range seeds {
				want := 0
				if a >= 1 && a <= n && b >= 1 && b <= n && a != b {
					for i, r := range playedRounds(t, speakers(1, n), winnersOf(a, b)) {
						if slices.ContainsFunc(r, func(p impl.Pair) bool { return isPairOf(p, a, b) }) {
							want = i + 1
						}
					}
				}
				if got := impl.MeetIn(n, a, b); got != want {
					t.Errorf("MeetIn(%d, %d, %d) is %d, want %d", n, a, b, got, want)
				}
			}
		}
	}
	for _, n := range noBrackets() {
		for _, seeds := range [][2]int{{1, 2}, {2, 1}, {1, 1}, {0, 0}, {-1, -1}, {0, 1}, {1, n}, {n, n - 1}} {
			if got := impl.MeetIn(n, seeds[0], seeds[1]); got != 0 {
				t.Errorf("MeetIn(%d, %d, %d) is %d", n, seeds[0], seeds[1], got)
			}
		}
	}
}

func TestTheBestTwoMeetLast(t *testing.T) {
	for n, rounds := range map[int]int{2: 1, 4: 2, 8: 3, 16: 4} {
		if impl.MeetIn(n, 1, 2) != rounds || impl.MeetIn(n, 2, 1) != rounds || impl.RoundsOf(n) != rounds {
			t.Errorf("of %d the best two meet in round %d of %d", n, impl.MeetIn(n, 1, 2), impl.RoundsOf(n))
		}
		// so do any two of the best four meet in one of the last two rounds, and so on
		for a := 1; a <= n; a++ {
			for b := a + 1; b <= n; b++ {
				first := rounds
				for best := 2; best < b; best *= 2 {
					first--
				}
				if got := impl.MeetIn(n, a, b); got < first || got > rounds {
					t.Errorf("of %d the seeds %d and %d meet in round %d", n, a, b, got)
				}
			}
		}
		best := speakers(11, n)
		played := playedRounds(t, best, func(p impl.Pair) int { return min(p.First, p.Second) })
		if len(played) != rounds || len(played[rounds-1]) != 1 || !isPairOf(played[rounds-1][0], best[0], best[1]) {
			t.Errorf("the better ones of %v win, and the rounds are %v", best, played)
		}
		for _, r := range played[:rounds-1] {
			if slices.ContainsFunc(r, func(p impl.Pair) bool { return isPairOf(p, best[0], best[1]) }) {
				t.Errorf("the best two of %v meet in %v", best, r)
			}
		}
	}
}

func TestBracketsOfTwo(t *testing.T) {
	r := impl.FirstRound([]int{4, 9})
	if len(r) != 1 || r[0] != (impl.Pair{First: 4, Second: 9}) || len(impl.NextRound(r, []int{4})) != 0 || len(impl.NextRound(r, []int{9})) != 0 {
		t.Errorf("the bracket of two is %v", r)
	}
	if !slices.Equal(impl.SeedOrder(2), []int{1, 2}) || impl.RoundsOf(2) != 1 || impl.MeetIn(2, 1, 2) != 1 || impl.MeetIn(2, 2, 1) != 1 {
		t.Errorf("the best two of two meet in round %d", impl.MeetIn(2, 1, 2))
	}
	if impl.MeetIn(2, 1, 1) != 0 || impl.MeetIn(2, 2, 2) != 0 || impl.MeetIn(2, 0, 1) != 0 || impl.MeetIn(2, 2, 3) != 0 {
		t.Errorf("one of two meets itself, or one more")
	}
}

func TestBracketFunctionsShareNoMemory(t *testing.T) {
	spoilt := impl.Pair{First: -6, Second: -6}
	for n := range 18 {
		expectFresh(t, -6, func() []int { return impl.SeedOrder(n) })
		ids, isSameIds := withSpare(speakers(1, n), -9)
		expectFresh(t, spoilt, func() []impl.Pair { return impl.FirstRound(ids) })
		r, isSameRound := withSpare(pairedUp(speakers(1, 2*n)), impl.Pair{First: -9, Second: -9})
		winners := []int{}
		for _, p := range r {
			winners = append(winners, p.Second)
		}
		won, isSameWon := withSpare(winners, -9)
		expectFresh(t, spoilt, func() []impl.Pair { return impl.NextRound(r, won) })
		if !isSameIds() || !isSameRound() || !isSameWon() {
			t.Errorf("%v, %v or %v is changed", ids, r, won)
		}
	}
}
