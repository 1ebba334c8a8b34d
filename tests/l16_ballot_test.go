package tests

import (
	"math"
	"slices"
	"testing"

	"loop.example/g03009/impl"
)

// ballotsOf returns ballots of the judges 5, 10, 15 and so on with these points.
func ballotsOf(points ...[2]int) []impl.Ballot {
	l := []impl.Ballot{}
	for i, p := range points {
		l = append(l, impl.Ballot{Judge: 5*i + 5, First: p[0], Second: p[1]})
	}
	return l
}

// badBallots are ballots that are not valid, for each reason and for two at once.
func badBallots() []impl.Ballot {
	return []impl.Ballot{
		{},
		{Judge: 0, First: 70, Second: 60},
		{Judge: -1, First: 70, Second: 60},
		{Judge: 100, First: 70, Second: 60},
		{Judge: math.MaxInt64, First: 70, Second: 60},
		{Judge: math.MinInt64, First: 70, Second: 60},
		{Judge: 7, First: -1, Second: 60},
		{Judge: 7, First: 101, Second: 60},
		{Judge: 7, First: math.MaxInt64, Second: 60},
		{Judge: 7, First: math.MinInt64, Second: 60},
		{Judge: 7, First: 70, Second: -1},
		{Judge: 7, First: 70, Second: 101},
		{Judge: 7, First: 70, Second: math.MaxInt64},
		{Judge: 7, First: 70, Second: math.MinInt64},
		{Judge: 7, First: 0, Second: 0},
		{Judge: 7, First: 55, Second: 55},
		{Judge: 7, First: 100, Second: 100},
		{Judge: 7, First: 101, Second: 101},
		{Judge: 0, First: 50, Second: 50},
		{Judge: 100, First: -1, Second: 101},
	}
}

// manyBallots returns ballots of the judges 1 to count, in turn for both teams.
func manyBallots(count int) []impl.Ballot {
	l := []impl.Ballot{}
	for i := range count {
		l = append(l, impl.Ballot{Judge: i + 1, First: 60 + i%2, Second: 61 - i%2})
	}
	return l
}

// badBallotLists are lists that are not valid, for each reason and for two at once.
func badBallotLists() [][]impl.Ballot {
	a, b, c := impl.Ballot{Judge: 1, First: 70, Second: 60}, impl.Ballot{Judge: 20, First: 70, Second: 60}, impl.Ballot{Judge: 30, First: 40, Second: 60}
	l := [][]impl.Ballot{
		{b, a},
		{a, a},
		{a, {Judge: 1, First: 10, Second: 20}},
		{a, c, b},
		{b, a, c},
		{a, b, b},
		manyBallots(10),
		manyBallots(50),
		append(manyBallots(8), impl.Ballot{Judge: 8, First: 1}),
		append(manyBallots(9), impl.Ballot{Judge: 9, First: 1}),
		append(manyBallots(9), impl.Ballot{Judge: 50}),
		make([]impl.Ballot, 9),
		make([]impl.Ballot, 10),
	}
	for _, bad := range badBallots() {
		l = append(l, []impl.Ballot{bad}, []impl.Ballot{a, bad}, []impl.Ballot{bad, b}, []impl.Ballot{a, bad, b, c})
	}
	return l
}

// sampleBallots are all lists of up to four ballots of six kinds, and some of up to nine ones.
func sampleBallots() [][]impl.Ballot {
	kinds := [][2]int{{70, 60}, {60, 70}, {61, 60}, {60, 61}, {0, 100}, {100, 0}}
	l := [][]impl.Ballot{nil}
	allLists([]int{0, 1, 2, 3, 4, 5}, 4, func(chosen []int) {
		points := [][2]int{}
		for _, kind := range chosen {
			points = append(points, kinds[kind])
		}
		l = append(l, ballotsOf(points...))
	})
	seed := 5
	next := func(n int) int {
		seed = (seed*1103515245 + 12345) % (1 << 31)
		return seed >> 8 % n
	}
	for range 3000 {
		points := [][2]int{}
		for range 1 + next(9) {
			p := [2]int{next(101), next(101)}
			if next(2) == 0 {
				p = [2]int{50 + next(3), 50 + next(3)}
			}
			if p[0] == p[1] {
				p = [2]int{p[0] / 2, 100 - p[0]/3}
			}
			points = append(points, p)
		}
		l = append(l, ballotsOf(points...))
	}
	return l
}

// count is what ballots come to.
type count struct {
	votes, points [3]int
}

// countOf counts anew what valid ballots come to for the teams 1 and 2.
func countOf(l []impl.Ballot) count {
	c := count{}
	for _, b := range l {
		if b.First > b.Second {
			c.votes[1]++
		} else {
			c.votes[2]++
		}
		c.points[1] += b.First
		c.points[2] += b.Second
	}
	return c
}

// trueDecision says anew who wins with valid ballots.
func trueDecision(l []impl.Ballot) int {
	if len(l) == 0 {
		return 0
	}
	c := countOf(l)
	lead := c.votes[1] - c.votes[2]
	if lead == 0 {
		lead = c.points[1] - c.points[2]
	}
	if lead == 0 {
		lead = l[0].First - l[0].Second
	}
	if lead > 0 {
		return 1
	}
	return 2
}

// otherWay returns the ballots with the teams the other way round.
func otherWay(l []impl.Ballot) []impl.Ballot {
	other := []impl.Ballot{}
	for _, b := range l {
		other = append(other, impl.Ballot{Judge: b.Judge, First: b.Second, Second: b.First})
	}
	return other
}

func TestIsBallot(t *testing.T) {
	for _, judge := range []int{-1, 0, 1, 2, 50, 98, 99, 100, 101} {
		for _, first := range []int{-2, -1, 0, 1, 50, 99, 100, 101, 102} {
			for _, second := range []int{-2, -1, 0, 1, 50, 51, 99, 100, 101, 102} {
				b := impl.Ballot{Judge: judge, First: first, Second: second}
				want := judge >= 1 && judge <= 99 && first >= 0 && first <= 100 && second >= 0 && second <= 100 && first != second
				if impl.IsBallot(b) != want || impl.AreBallots([]impl.Ballot{b}) != want {
					t.Errorf("IsBallot(%v) is %v", b, impl.IsBallot(b))
				}
			}
		}
	}
	for _, b := range badBallots() {
		if impl.IsBallot(b) {
			t.Errorf("IsBallot(%v) is true", b)
		}
	}
}

func TestAreBallots(t *testing.T) {
	for _, l := range sampleBallots() {
		if !impl.AreBallots(l) {
			t.Errorf("%v are no ballots", l)
		}
	}
	for _, l := range badBallotLists() {
		if impl.AreBallots(l) {
			t.Errorf("%v are ballots", l)
		}
	}
	for count := range 15 {
		if got := impl.AreBallots(manyBallots(count)); got != (count <= 9) {
			t.Errorf("AreBallots of %d ballots is %v", count, got)
		}
	}
}

func TestSampleBallots(t *testing.T) {
	for _, l := range sampleBallots() {
		c := countOf(l)
		for team := 1; team <= 2; team++ {
			if impl.VotesFor(l, team) != c.votes[team] || impl.SumFor(l, team) != c.points[team] {
				t.Errorf("%v has %d votes and %d points for the team %d, want %v", l, impl.VotesFor(l, team), impl.SumFor(l, team), team, c)
			}
		}
		for _, none := range []int{0, 3, -1, -2, 4, math.MinInt64, math.MaxInt64, 1 << 32, 1<<32 + 1} {
			if impl.VotesFor(l, none) != 0 || impl.SumFor(l, none) != 0 {
				t.Errorf("%v has votes or points for the team %d", l, none)
			}
		}
		if got := impl.Decision(l); got != trueDecision(l) {
			t.Errorf("Decision(%v) is %d, want %d", l, got, trueDecision(l))
		}
		if got := impl.IsSplit(l); got != (c.votes[1] > 0 && c.votes[2] > 0) {
			t.Errorf("IsSplit(%v) is %v", l, got)
		}
	}
}

func TestWhoeverHasMoreVotesWins(t *testing.T) {
	for _, l := range sampleBallots() {
		one, two := impl.VotesFor(l, 1), impl.VotesFor(l, 2)
		won := impl.Decision(l)
		if one > two && won != 1 || two > one && won != 2 || (won == 0) != (len(l) == 0) || one+two != len(l) {
			t.Errorf("%v has %d and %d votes, and %d wins", l, one, two, won)
		}
		other := otherWay(l)
		if impl.VotesFor(other, 1) != two || impl.SumFor(other, 2) != impl.SumFor(l, 1) || impl.IsSplit(other) != impl.IsSplit(l) || won != 0 && impl.Decision(other) != 3-won {
			t.Errorf("the teams of %v the other way round change more than that", l)
		}
	}
	// more votes, but far fewer points
	l := ballotsOf([2]int{0, 100}, [2]int{51, 50}, [2]int{51, 50})
	if impl.Decision(l) != 1 || impl.Decision(otherWay(l)) != 2 || impl.SumFor(l, 1) != 102 || impl.SumFor(l, 2) != 200 {
		t.Errorf("Decision(%v) is %d", l, impl.Decision(l))
	}
}

func TestJudgesWhoAreEven(t *testing.T) {
	for _, c := range []struct {
		l    []impl.Ballot
		want int
		even bool
	}{
		// the points decide, whatever the first judge says
		{ballotsOf([2]int{61, 60}, [2]int{50, 60}), 2, false},
		{ballotsOf([2]int{60, 61}, [2]int{60, 50}), 1, false},
		{ballotsOf([2]int{70, 60}, [2]int{59, 60}), 1, false},
		{ballotsOf([2]int{0, 100}, [2]int{99, 0}), 2, false},
		{ballotsOf([2]int{60, 61}, [2]int{60, 61}, [2]int{61, 60}, [2]int{62, 60}), 1, false},
		// so does the first judge, if the points are even, too
		{ballotsOf([2]int{61, 60}, [2]int{60, 61}), 1, true},
		{ballotsOf([2]int{60, 61}, [2]int{61, 60}), 2, true},
		{ballotsOf([2]int{0, 100}, [2]int{100, 0}), 2, true},
		{ballotsOf([2]int{60, 61}, [2]int{61, 60}, [2]int{61, 60}, [2]int{60, 61}), 2, true},
		{ballotsOf([2]int{62, 60}, [2]int{60, 61}, [2]int{60, 61}, [2]int{1, 0}, [2]int{0, 2}, [2]int{2, 1}), 1, true},
		{ballotsOf([2]int{50, 55}, [2]int{53, 50}, [2]int{52, 50}, [2]int{50, 51}, [2]int{51, 50}, [2]int{49, 50}, [2]int{52, 50}, [2]int{50, 51}), 2, true},
	} {
		if impl.VotesFor(c.l, 1) != impl.VotesFor(c.l, 2) || !impl.IsSplit(c.l) || (impl.SumFor(c.l, 1) == impl.SumFor(c.l, 2)) != c.even {
			t.Errorf("the judges or the points of %v are not even, or both are", c.l)
		}
		if impl.Decision(c.l) != c.want || impl.Decision(otherWay(c.l)) != 3-c.want {
			t.Errorf("Decision(%v) is %d, want %d", c.l, impl.Decision(c.l), c.want)
		}
	}
}

func TestBallotsThatAreNotValid(t *testing.T) {
	for _, l := range append(badBallotLists(), nil, []impl.Ballot{}) {
		for team := -1; team <= 4; team++ {
			if impl.VotesFor(l, team) != 0 || impl.SumFor(l, team) != 0 {
				t.Errorf("%v has %d votes and %d points for the team %d", l, impl.VotesFor(l, team), impl.SumFor(l, team), team)
			}
		}
		if impl.Decision(l) != 0 || impl.IsSplit(l) {
			t.Errorf("Decision(%v) is %d, and IsSplit %v", l, impl.Decision(l), impl.IsSplit(l))
		}
	}
}

func TestTheMostBallots(t *testing.T) {
	for _, b := range []impl.Ballot{{First: 100, Second: 99}, {First: 0, Second: 1}, {First: 100, Second: 0}} {
		l := []impl.Ballot{}
		for judge := 91; judge <= 99; judge++ {
			l = append(l, impl.Ballot{Judge: judge, First: b.First, Second: b.Second})
		}
		won := 1
		if b.Second > b.First {
			won = 2
		}
		if impl.VotesFor(l, won) != 9 || impl.VotesFor(l, 3-won) != 0 || impl.SumFor(l, 1) != 9*b.First || impl.SumFor(l, 2) != 9*b.Second || impl.Decision(l) != won || impl.IsSplit(l) {
			t.Errorf("Decision(%v) is %d with %d votes", l, impl.Decision(l), impl.VotesFor(l, won))
		}
	}
}

func TestBallotFunctionsLeaveTheirArgumentsAlone(t *testing.T) {
	spare := impl.Ballot{Judge: -9, First: -9, Second: -9}
	for _, l := range append(sampleBallots(), badBallotLists()...) {
		under := append(slices.Clone(l), spare, spare)
		roomy := under[:len(l)]
		impl.AreBallots(roomy)
		impl.VotesFor(roomy, 1)
		impl.Decision(roomy)
		impl.SumFor(roomy, 2)
		impl.IsSplit(roomy)
		if !slices.Equal(under, append(slices.Clone(l), spare, spare)) {
			t.Errorf("%v became %v", l, under)
		}
	}
}
