package tests

import (
	"math"
	"slices"
	"testing"

	"loop.example/g03009/impl"
)

// teamWith returns the team with an Id out of valid teams.
func teamWith(l []impl.Team, id int) (impl.Team, bool) {
	for _, x := range l {
		if x.Id == id {
			return x, true
		}
	}
	return impl.Team{}, false
}

// trueMeet says anew whether two teams may meet.
func trueMeet(l []impl.Team, a int, b int) bool {
	x, isX := teamWith(l, a)
	y, isY := teamWith(l, b)
	return trueTeams(l) && isX && isY && a != b && x.Club != y.Club && timesMet(x, y) == 0
}

// trueSides says anew who is first.
func trueSides(l []impl.Team, a int, b int) impl.Pair {
	x, isX := teamWith(l, a)
	y, isY := teamWith(l, b)
	if !trueTeams(l) || !isX || !isY || a == b {
		return impl.Pair{}
	}
	standing := impl.Standing(l)
	if x.Firsts < y.Firsts || x.Firsts == y.Firsts && slices.Index(standing, a) < slices.Index(standing, b) {
		return impl.Pair{First: a, Second: b}
	}
	return impl.Pair{First: b, Second: a}
}

// allRounds returns all pairings of teams, in the order in which the first teams get their earlier partners first.
func allRounds(l []impl.Team, standing []int) [][]impl.Pair {
	if len(standing) == 0 {
		return [][]impl.Pair{{}}
	}
	rounds := [][]impl.Pair{}
	for i := 1; i < len(standing); i++ {
		if !trueMeet(l, standing[0], standing[i]) {
			continue
		}
		left := append(slices.Clone(standing[1:i]), standing[i+1:]...)
		for _, others := range allRounds(l, left) {
			rounds = append(rounds, append([]impl.Pair{trueSides(l, standing[0], standing[i])}, others...))
		}
	}
	return rounds
}

// trueRound says anew whether each team is in just one of the pairs, and each two may meet.
func trueRound(l []impl.Team, r []impl.Pair) bool {
	for _, x := range l {
		times := 0
		for _, pair := range r {
			if pair.First == x.Id {
				times++
			}
			if pair.Second == x.Id {
				times++
			}
		}
		if times != 1 {
			return false
		}
	}
	for _, pair := range r {
		if !trueMeet(l, pair.First, pair.Second) {
			return false
		}
	}
	return true
}

// playedOn lets teams play rounds until there is none any more.
func playedOn(t *testing.T, l []impl.Team, next func(n int) int) []impl.Team {
	t.Helper()
	for {
		r, ok := impl.PairRound(l)
		if !ok || len(r) == 0 {
			return l
		}
		for _, pair := range r {
			d := debate{pair.First, pair.Second, 1 + next(2), 50 + next(3), 50 + next(3)}
			added, isAdded := d.addTo(l)
			if !isAdded {
				t.Fatalf("AddResult(%v, %v) is false", l, d)
			}
			l = added
		}
	}
}

// teamsToPair are some teams, many of which have a round.
func teamsToPair(t *testing.T) [][]impl.Team {
	t.Helper()
	samples := sampleTeams()
	next := numbersFrom(20)
	for i := range 400 {
		clubs := []int{}
		for range i % 11 {
			clubs = append(clubs, 1+next(1+i/11%9))
		}
		l := teamsOf(clubs...)
		for range next(3) {
			for range len(l) / 2 {
				place := next(len(l))
				other := (place + 1 + next(len(l)-1)) % len(l)
				if timesMet(l[place], l[other]) == 0 {
					l = debated(l, debate{l[place].Id, l[other].Id, 1 + next(2), 60 + next(2), 60 + next(2)})
				}
			}
		}
		samples = append(samples, l)
	}
	return samples
}

func TestMayMeetAndSideFor(t *testing.T) {
	for _, l := range append(teamsToPair(t), badTeams()...) {
		for _, a := range []int{-5, 0, 5, 10, 15, 20, 35, 50, 99} {
			for _, b := range []int{-5, 0, 5, 10, 15, 25, 45, 50, 99} {
				if got := impl.MayMeet(l, a, b); got != trueMeet(l, a, b) {
					t.Errorf("MayMeet(%v, %d, %d) is %v", l, a, b, got)
				}
				if got := impl.SideFor(l, a, b); got != trueSides(l, a, b) || got != impl.SideFor(l, b, a) {
					t.Errorf("SideFor(%v, %d, %d) is %v, want %v", l, a, b, got, trueSides(l, a, b))
				}
			}
		}
	}
}

func TestMayMeet(t *testing.T) {
	l := debated(teamsOf(1, 2, 1, 3), debate{5, 10, 1, 60, 61})
	for _, c := range []struct {
		a, b int
		want bool
	}{
		{10, 15, true}, {15, 10, true}, {5, 20, true}, {20, 15, true},
		// of one club; have met; the same team; no teams
		{5, 15, false}, {15, 5, false}, {5, 10, false}, {10, 5, false}, {5, 5, false}, {20, 20, false},
		{5, 25, false}, {0, 5, false}, {7, 8, false}, {7, 7, false}, {math.MinInt64, 5, false}, {5, math.MaxInt64, false},
	} {
		if got := impl.MayMeet(l, c.a, c.b); got != c.want {
			t.Errorf("MayMeet(%v, %d, %d) is %v", l, c.a, c.b, got)
		}
	}
	if impl.MayMeet(nil, 5, 10) || impl.MayMeet(nil, 0, 0) {
		t.Errorf("teams may meet where there are none")
	}
}

func TestSideFor(t *testing.T) {
	l := teamsOf(1, 2, 3)
	for _, c := range []struct {
		d    debate
		want [3]impl.Pair
	}{
		// nobody has been first: the better one of the standing, 10, 15 and 5, is first
		{debate{}, [3]impl.Pair{{First: 10, Second: 5}, {First: 10, Second: 15}, {First: 15, Second: 5}}},
		// 10 has been first once, whatever the standing is
		{debate{10, 5, 1, 100, 0}, [3]impl.Pair{{First: 5, Second: 10}, {First: 15, Second: 10}, {First: 15, Second: 5}}},
		// 5 and 10 have both been first once, and 5 comes behind 10 in the standing
		{debate{5, 15, 1, 0, 7}, [3]impl.Pair{{First: 10, Second: 5}, {First: 15, Second: 10}, {First: 15, Second: 5}}},
		// 5 has been first twice
		{debate{5, 10, 1, 500, 0}, [3]impl.Pair{{First: 10, Second: 5}, {First: 15, Second: 10}, {First: 15, Second: 5}}},
	} {
		l[1].Points, l[2].Points = max(l[1].Points, 9), max(l[2].Points, 1)
		if c.d.first > 0 {
			l = debated(l, c.d)
		}
		for i, two := range [3][2]int{{5, 10}, {10, 15}, {15, 5}} {
			if got := impl.SideFor(l, two[0], two[1]); got != c.want[i] || impl.SideFor(l, two[1], two[0]) != got {
				t.Errorf("SideFor(%v, %d, %d) is %v, want %v", l, two[0], two[1], got, c.want[i])
			}
		}
	}
	for _, two := range [][2]int{{5, 5}, {5, 6}, {6, 5}, {0, 0}, {6, 6}, {-1, 100}} {
		if got := impl.SideFor(l, two[0], two[1]); got != (impl.Pair{}) {
			t.Errorf("SideFor(%v, %v) is %v", l, two, got)
		}
	}
}

func TestARoundIsFoundIfThereIsOne(t *testing.T) {
	found, none := 0, 0
	for _, l := range teamsToPair(t) {
		rounds := allRounds(l, impl.Standing(l))
		got, ok := impl.PairRound(l)
		if len(rounds) == 0 {
			none++
			if ok || len(got) != 0 {
				t.Errorf("PairRound(%v) is %v, %v, but there is none", l, got, ok)
			}
			continue
		}
		found++
		if !ok || !slices.Equal(got, rounds[0]) {
			t.Errorf("PairRound(%v) is %v, %v, want %v", l, got, ok, rounds[0])
		}
		for _, r := range rounds {
			if !impl.IsRound(l, r) {
				t.Errorf("IsRound(%v, %v) is false", l, r)
			}
		}
	}
	if found < 100 || none < 100 {
		t.Errorf("there are %d samples with a round, and %d with none", found, none)
	}
	for _, l := range badTeams() {
		if got, ok := impl.PairRound(l); ok || len(got) != 0 {
			t.Errorf("PairRound(%v) is %v, %v", l, got, ok)
		}
	}
}

func TestTeamsPlayRoundsUntilThereIsNone(t *testing.T) {
	next := numbersFrom(2)
	for count := 2; count <= 10; count += 2 {
		for few := 1; few <= count; few++ {
			clubs := []int{}
			for i := range count {
				clubs = append(clubs, 1+i%few)
			}
			l := playedOn(t, teamsOf(clubs...), next)
			if len(allRounds(l, impl.Standing(l))) > 0 {
				t.Errorf("there is still a round for %v", l)
			}
			for _, x := range l {
				for _, other := range l {
					if times := timesMet(x, other); times > 1 || times > 0 && x.Club == other.Club {
						t.Errorf("%v and %v have met %d times", x, other, times)
					}
				}
			}
		}
	}
}

func TestPairRound(t *testing.T) {
	pairs := func(ids ...int) []impl.Pair {
		r := []impl.Pair{}
		for i := 0; i < len(ids); i += 2 {
			r = append(r, impl.Pair{First: ids[i], Second: ids[i+1]})
		}
		return r
	}
	for _, c := range []struct {
		l    []impl.Team
		want []impl.Pair
		ok   bool
	}{
		{nil, nil, true},
		{[]impl.Team{}, nil, true},
		{teamsOf(1, 2), pairs(5, 10), true},
		{teamsOf(1, 2, 3, 4), pairs(5, 10, 15, 20), true},
		{teamsOf(1, 2, 3, 4, 5, 6, 7, 8, 9, 10), pairs(5, 10, 15, 20, 25, 30, 35, 40, 45, 50), true},
		// the first one of another club
		{teamsOf(1, 1, 2, 2), pairs(5, 15, 10, 20), true},
		{teamsOf(1, 2, 2, 1), pairs(5, 10, 15, 20), true},
		// the first partner leaves two of one club
		{teamsOf(1, 2, 3, 3), pairs(5, 15, 10, 20), true},
		{teamsOf(1, 2, 3, 3, 3, 4), pairs(5, 15, 10, 20, 25, 30), true},
		// nobody, one, teams of one club, more than half of one club, odd numbers
		{teamsOf(1), nil, false},
		{teamsOf(1, 1), nil, false},
		{teamsOf(1, 1, 1, 1), nil, false},
		{teamsOf(1, 1, 1, 2), nil, false},
		{teamsOf(2, 1, 1, 1, 1, 2), nil, false},
		{teamsOf(slices.Repeat([]int{7}, 10)...), nil, false},
		{teamsOf(1, 1, 1, 1, 1, 1, 2, 3, 4, 5), nil, false},
		{teamsOf(1, 1, 1, 1, 1, 2, 3, 4, 5, 6), pairs(5, 30, 10, 35, 15, 40, 20, 45, 25, 50), true},
		{teamsOf(1, 2, 3), nil, false},
		{teamsOf(1, 2, 3, 4, 5, 6, 7, 8, 9), nil, false},
		{manyDebates(1, 5), nil, false},
		// too many teams
		{teamsOf(1, 2, 3, 4, 5, 6, 7, 8, 9, 10, 11, 12), nil, false},
		{teamsOf(1, 2, 3, 4, 5, 6, 7, 8, 9, 10, 11), nil, false},
	} {
		got, ok := impl.PairRound(c.l)
		if ok != c.ok || !slices.Equal(got, c.want) {
			t.Errorf("PairRound(%v) is %v, %v, want %v, %v", c.l, got, ok, c.want, c.ok)
		}
		if ok && !impl.IsRound(c.l, got) {
			t.Errorf("%v is no round of %v", got, c.l)
		}
	}
}

func TestPairRoundGoesThroughTheStanding(t *testing.T) {
	l := teamsOf(1, 2, 3, 4)
	l[3].Points = 5
	l[1].Points = 4
	if got, ok := impl.PairRound(l); !ok || !slices.Equal(got, []impl.Pair{{First: 20, Second: 10}, {First: 5, Second: 15}}) {
		t.Errorf("PairRound(%v) is %v", l, got)
	}
	// 20 has been first and has met 10
	l = debated(l, debate{20, 10, 1, 0, 0})
	if got, ok := impl.PairRound(l); !ok || !slices.Equal(got, []impl.Pair{{First: 5, Second: 20}, {First: 10, Second: 15}}) {
		t.Errorf("PairRound(%v) is %v", l, got)
	}
}

func TestIsRound(t *testing.T) {
	next := numbersFrom(12)
	for _, l := range append(teamsToPair(t)[300:], badTeams()...) {
		ids := []int{}
		for _, x := range l {
			ids = append(ids, x.Id)
		}
		for range 30 {
			// pairs of all teams in some order, most often with no change or one
			r := []impl.Pair{}
			order := shuffled(len(ids), next)
			for i := 0; i+1 < len(order); i += 2 {
				r = append(r, impl.Pair{First: ids[order[i]], Second: ids[order[i+1]]})
			}
			if len(r) > 0 {
				switch next(8) {
				case 0:
					r = r[1:]
				case 1:
					r = append(r, r[0])
				case 2:
					r[0].First = r[0].Second
				case 3:
					r[0].Second = r[len(r)-1].First
				case 4:
					r = append(r, impl.Pair{First: 98, Second: 99})
				}
			}
			if got := impl.IsRound(l, r); got != trueRound(l, r) {
				t.Errorf("IsRound(%v, %v) is %v", l, r, got)
			}
		}
		if got := impl.IsRound(l, nil); got != (len(l) == 0) {
			t.Errorf("IsRound(%v, nil) is %v", l, got)
		}
	}
	one := impl.Pair{First: 5, Second: 10}
	for _, r := range [][]impl.Pair{{one}, {{}}, {one, one}, make([]impl.Pair, 50)} {
		if impl.IsRound(nil, r) {
			t.Errorf("%v is a round of no teams", r)
		}
	}
	two, four := teamsOf(1, 2), teamsOf(1, 2, 3, 4)
	for _, c := range []struct {
		l    []impl.Team
		r    []impl.Pair
		want bool
	}{
		{two, []impl.Pair{one}, true},
		{two, []impl.Pair{{First: 10, Second: 5}}, true},
		{two, []impl.Pair{one, one}, false},
		{two, []impl.Pair{one, {First: 10, Second: 5}}, false},
		{two, []impl.Pair{{First: 5, Second: 5}}, false},
		{two, []impl.Pair{{First: 5, Second: 5}, {First: 10, Second: 10}}, false},
		{two, []impl.Pair{{First: 5, Second: 6}}, false},
		{two, []impl.Pair{one, {First: 15, Second: 20}}, false},
		{two, []impl.Pair{one, {}}, false},
		{four, []impl.Pair{{First: 20, Second: 10}, {First: 15, Second: 5}}, true},
		{four, []impl.Pair{one}, false},
		{four, []impl.Pair{one, {First: 15, Second: 10}, {First: 20, Second: 10}}, false},
		{four, []impl.Pair{one, {First: 5, Second: 15}, {First: 5, Second: 20}}, false},
		{teamsOf(1, 2, 3), []impl.Pair{one, {First: 15, Second: 10}}, false},
		{teamsOf(1, 2, 3), []impl.Pair{one, {First: 5, Second: 15}}, false},
		{four, []impl.Pair{one, {First: 15, Second: 10}}, false},
		{four, []impl.Pair{one, {First: 10, Second: 15}, {First: 15, Second: 20}}, false},
		{teamsOf(1, 1), []impl.Pair{one}, false},
		{manyDebates(1, 0), []impl.Pair{one}, false},
		{teamsOf(1, 2, 3), []impl.Pair{one}, false},
		{teamsOf(0, 2), []impl.Pair{one}, false},
	} {
		if got := impl.IsRound(c.l, c.r); got != c.want {
			t.Errorf("IsRound(%v, %v) is %v", c.l, c.r, got)
		}
	}
}

func TestSideGap(t *testing.T) {
	l := teamsOf(1, 2, 3, 4)
	l[0].Firsts, l[1].Firsts, l[2].Firsts, l[3].Firsts = 3, 1, 7, 3
	for _, c := range []struct {
		r    []impl.Pair
		want int
	}{
		{nil, 0},
		{[]impl.Pair{{First: 5, Second: 10}}, 2},
		{[]impl.Pair{{First: 10, Second: 5}}, 2},
		{[]impl.Pair{{First: 5, Second: 20}}, 0},
		{[]impl.Pair{{First: 5, Second: 5}}, 0},
		{[]impl.Pair{{First: 5, Second: 10}, {First: 15, Second: 20}}, 4},
		{[]impl.Pair{{First: 20, Second: 15}, {First: 5, Second: 10}}, 4},
		{[]impl.Pair{{First: 10, Second: 15}, {First: 10, Second: 15}}, 6},
		// only pairs of teams count
		{[]impl.Pair{{First: 15, Second: 25}}, 0},
		{[]impl.Pair{{First: 0, Second: 15}}, 0},
		{[]impl.Pair{{First: 1, Second: 2}}, 0},
		{[]impl.Pair{{First: 0, Second: 15}, {First: 5, Second: 10}, {First: 15, Second: 99}}, 2},
	} {
		if got := impl.SideGap(l, c.r); got != c.want {
			t.Errorf("SideGap(%v, %v) is %d, want %d", l, c.r, got, c.want)
		}
		if got := impl.SideGap(nil, c.r); got != 0 {
			t.Errorf("SideGap(nil, %v) is %d", c.r, got)
		}
	}
}

func TestSideGapOfTeamsThatAreNotValid(t *testing.T) {
	for _, c := range []struct{ a, b, want int }{
		{-1, 1, 2}, {-5, -2, 3}, {0, math.MaxInt64, math.MaxInt64}, {math.MinInt64, -1, math.MaxInt64},
		// differences beyond the range of int wrap around
		{math.MinInt64, 0, 0}, {math.MinInt64, 1, math.MaxInt64}, {math.MinInt64, math.MaxInt64, 1}, {-1, math.MaxInt64, 0}, {-2, math.MaxInt64, math.MaxInt64},
	} {
		l := teamsOf(1, 2)
		l[0].Firsts, l[1].Firsts = c.a, c.b
		for _, pair := range []impl.Pair{{First: 5, Second: 10}, {First: 10, Second: 5}} {
			if got := impl.SideGap(l, []impl.Pair{pair}); got != c.want {
				t.Errorf("SideGap of %d and %d is %d, want %d", c.a, c.b, got, c.want)
			}
		}
	}
	// of several teams with one Id the first one counts
	l := []impl.Team{{Id: 3, Firsts: 1}, {Id: 3, Firsts: 5}, {Id: 4, Firsts: 2}}
	if got := impl.SideGap(l, []impl.Pair{{First: 3, Second: 4}}); got != 1 {
		t.Errorf("SideGap(%v) is %d", l, got)
	}
}

func TestPairFunctionsShareNoMemory(t *testing.T) {
	for _, l := range append(teamsToPair(t), badTeams()...) {
		roomy, expectSame := spaciousTeams(l)
		one, _ := impl.PairRound(roomy)
		two, _ := impl.PairRound(roomy)
		want := slices.Clone(two)
		under := one[:cap(one)]
		for i := range under {
			under[i] = impl.Pair{First: -6, Second: -6}
		}
		if !slices.Equal(two, want) {
			t.Errorf("two rounds of %v share memory", l)
		}
		r, isSame := withSpare(want, impl.Pair{First: -9, Second: -9})
		impl.IsRound(roomy, r)
		impl.SideGap(roomy, r)
		impl.SideFor(roomy, 5, 10)
		impl.MayMeet(roomy, 5, 10)
		if !isSame() {
			t.Errorf("the round %v is changed", want)
		}
		expectSame(t)
	}
}
