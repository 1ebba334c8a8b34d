package tests

import (
	"math"
	"slices"
	"testing"

	"loop.example/g03009/impl"
)

// teamsOf returns teams with the Ids 5, 10, 15 and so on of these clubs, who have met nobody.
func teamsOf(clubs ...int) []impl.Team {
	l := []impl.Team{}
	for i, club := range clubs {
		l = append(l, impl.Team{Id: 5*i + 5, Club: club})
	}
	return l
}

// debate is what AddResult is given.
type debate struct{ first, second, winner, p, q int }

func (d debate) addTo(l []impl.Team) ([]impl.Team, bool) {
	return impl.AddResult(l, d.first, d.second, d.winner, d.p, d.q)
}

// debated adds a debate anew, of teams that are there.
func debated(l []impl.Team, d debate) []impl.Team {
	l = cloneTeams(l)
	for i := range l {
		if l[i].Id == d.first {
			l[i].Met = append(l[i].Met, d.second)
			l[i].Firsts++
			l[i].Points += d.p
			l[i].Wins += d.winner % 2
		}
		if l[i].Id == d.second {
			l[i].Met = append(l[i].Met, d.first)
			l[i].Points += d.q
			l[i].Wins += d.winner / 2
		}
	}
	return l
}

func cloneTeams(l []impl.Team) []impl.Team {
	l = slices.Clone(l)
	for i := range l {
		l[i].Met = slices.Clone(l[i].Met)
	}
	return l
}

func sameTeams(a []impl.Team, b []impl.Team) bool {
	return slices.EqualFunc(a, b, func(x impl.Team, y impl.Team) bool {
		return x.Id == y.Id && x.Club == y.Club && x.Wins == y.Wins && x.Points == y.Points && x.Firsts == y.Firsts && slices.Equal(x.Met, y.Met)
	})
}

// someTeams returns up to ten teams of few clubs with some debates behind them.
func someTeams(next func(n int) int) []impl.Team {
	clubs, few := []int{}, 1+next(9)
	for range next(11) {
		clubs = append(clubs, 1+next(few))
	}
	l := teamsOf(clubs...)
	if len(l) < 2 {
		return l
	}
	for range next(2 + next(25)) {
		i, j := next(len(l)), next(len(l)-1)
		if j >= i {
			j++
		}
		if len(l[i].Met) < 20 && len(l[j].Met) < 20 {
			l = debated(l, debate{l[i].Id, l[j].Id, 1 + next(2), 60 + next(3), 60 + next(3)})
		}
	}
	return l
}

// sampleTeams are lists of up to ten teams.
func sampleTeams() [][]impl.Team {
	samples := [][]impl.Team{nil, {}, teamsOf(1), teamsOf(1, 1), teamsOf(1, 2), teamsOf(1, 2, 3, 4, 5, 6, 7, 8, 9, 10), teamsOf(slices.Repeat([]int{99}, 10)...)}
	next := numbersFrom(19)
	for range 400 {
		samples = append(samples, someTeams(next))
	}
	return samples
}

// trueTeams says anew whether teams are valid.
func trueTeams(l []impl.Team) bool {
	if len(l) > 10 {
		return false
	}
	last := 0
	for _, t := range l {
		if t.Id <= last || t.Id > 99 || t.Club < 1 || t.Club > 99 || t.Wins < 0 || t.Wins > len(t.Met) || t.Firsts < 0 || t.Firsts > len(t.Met) || t.Points < 0 || t.Points > 100000 || len(t.Met) > 20 {
			return false
		}
		last = t.Id
		known := 0
		for _, other := range l {
			times := timesMet(t, other)
			if times != timesMet(other, t) || t.Id == other.Id && times > 0 {
				return false
			}
			known += times
		}
		if known != len(t.Met) {
			return false
		}
	}
	return true
}

// timesMet returns how often one team has met another one.
func timesMet(t impl.Team, other impl.Team) int {
	times := 0
	for _, met := range t.Met {
		if met == other.Id {
			times++
		}
	}
	return times
}

// badTeams are lists that are not valid, for each reason and for two at once.
func badTeams() [][]impl.Team {
	l := [][]impl.Team{make([]impl.Team, 1), make([]impl.Team, 11), append(teamsOf(1, 2, 3, 4, 5, 6, 7, 8, 9, 10), impl.Team{Id: 60, Club: 1}), teamsOf(speakers(1, 25)...)}
	fine := debated(debated(teamsOf(1, 2, 3), debate{5, 10, 1, 60, 61}), debate{10, 15, 2, 70, 70})
	for place := range fine {
		for _, spoil := range []func(t *impl.Team){
			func(t *impl.Team) { t.Id = 0 },
			func(t *impl.Team) { t.Id = -5 },
			func(t *impl.Team) { t.Id = 100 },
			func(t *impl.Team) { t.Id = math.MaxInt64 },
			func(t *impl.Team) { t.Id = math.MinInt64 },
			func(t *impl.Team) { t.Id = fine[(place+1)%3].Id },
			func(t *impl.Team) { t.Id = fine[(place+2)%3].Id },
			func(t *impl.Team) { t.Id++ },
			func(t *impl.Team) { t.Club = 0 },
			func(t *impl.Team) { t.Club = -1 },
			func(t *impl.Team) { t.Club = 100 },
			func(t *impl.Team) { t.Club = math.MinInt64 },
			func(t *impl.Team) { t.Wins = -1 },
			func(t *impl.Team) { t.Wins = len(t.Met) + 1 },
			func(t *impl.Team) { t.Wins = math.MaxInt64 },
			func(t *impl.Team) { t.Firsts = -1 },
			func(t *impl.Team) { t.Firsts = len(t.Met) + 1 },
			func(t *impl.Team) { t.Firsts = math.MinInt64 },
			func(t *impl.Team) { t.Points = -1 },
			func(t *impl.Team) { t.Points = 100001 },
			func(t *impl.Team) { t.Points = math.MaxInt64 },
			func(t *impl.Team) { t.Met = nil; t.Wins = 0; t.Firsts = 0 },
			func(t *impl.Team) { t.Met = append(t.Met, t.Met[0]) },
			func(t *impl.Team) { t.Met = append(t.Met, t.Id) },
			func(t *impl.Team) { t.Met = append(t.Met, t.Id, t.Id) },
			func(t *impl.Team) { t.Met = append(t.Met, 20-t.Id) },
			func(t *impl.Team) { t.Met = append(t.Met, 20) },
			func(t *impl.Team) { t.Met = append(t.Met, 0) },
			func(t *impl.Team) { t.Met = append(t.Met, 99, 99) },
			func(t *impl.Team) { t.Met = []int{4} },
			func(t *impl.Team) { t.Met = append(t.Met, slices.Repeat([]int{10}, 20)...) },
			func(t *impl.Team) { t.Club = 0; t.Wins = 7 },
			func(t *impl.Team) { t.Id = 0; t.Points = -7; t.Met = []int{1, 2, 3} },
		} {
			bad := cloneTeams(fine)
			spoil(&bad[place])
			l = append(l, bad)
		}
	}
	// teams who have met nobody, out of order
	for _, ids := range [][]int{{5, 5}, {10, 5}, {5, 10, 10}, {5, 15, 10}, {5, 5, 10}, {10, 5, 15}} {
		bad := teamsOf(1, 2, 3)[:len(ids)]
		for place := range bad {
			bad[place].Id = ids[place]
		}
		l = append(l, bad)
	}
	twice := debated(fine, debate{5, 10, 1, 1, 1})
	twice[0].Met = []int{10, 15}
	return append(l, twice, slices.Concat(fine[:2], fine[1:]), []impl.Team{fine[2], fine[1], fine[0]}, fine[:2], fine[1:])
}

// manyDebates returns two teams that have met so often, and what each one has as points.
func manyDebates(times int, points int) []impl.Team {
	l := teamsOf(1, 2)
	for range times {
		l = debated(l, debate{5, 10, 1, 0, 0})
	}
	l[0].Points, l[1].Points = points, points
	return l
}

// expectResult fails if AddResult does not return what trueResult says.
func expectResult(t *testing.T, l []impl.Team, d debate) {
	t.Helper()
	ids := []int{}
	for _, x := range l {
		ids = append(ids, x.Id)
	}
	fine := trueTeams(l) && slices.Contains(ids, d.first) && slices.Contains(ids, d.second) && d.first != d.second &&
		(d.winner == 1 || d.winner == 2) && d.p >= 0 && d.p <= 1000 && d.q >= 0 && d.q <= 1000
	want := l
	if fine {
		want = debated(l, d)
		fine = trueTeams(want)
	}
	if !fine {
		want = l
	}
	if got, ok := d.addTo(l); ok != fine || !sameTeams(got, want) {
		t.Errorf("AddResult(%v, %v) is %v, %v, want %v, %v", l, d, got, ok, want, fine)
	}
}

func TestAreTeams(t *testing.T) {
	for _, l := range sampleTeams() {
		if !impl.AreTeams(l) || !trueTeams(l) {
			t.Errorf("%v are no teams", l)
		}
	}
	for _, l := range badTeams() {
		if impl.AreTeams(l) || trueTeams(l) {
			t.Errorf("%v are teams", l)
		}
	}
	for count := range 15 {
		if got := impl.AreTeams(teamsOf(speakers(1, count)...)); got != (count <= 10) {
			t.Errorf("AreTeams of %d teams is %v", count, got)
		}
	}
	for times := range 25 {
		if got := impl.AreTeams(manyDebates(times, 0)); got != (times <= 20) {
			t.Errorf("AreTeams of two teams that have met %d times is %v", times, got)
		}
	}
}

func TestTeamsAtTheirLimits(t *testing.T) {
	for n := -2; n <= 103; n++ {
		if got := impl.AreTeams([]impl.Team{{Id: n, Club: 1}}); got != (n >= 1 && n <= 99) {
			t.Errorf("AreTeams of the Id %d is %v", n, got)
		}
		if got := impl.AreTeams([]impl.Team{{Id: 1, Club: n}}); got != (n >= 1 && n <= 99) {
			t.Errorf("AreTeams of the club %d is %v", n, got)
		}
	}
	for _, points := range []int{math.MinInt64, -1, 0, 1, 99999, 100000, 100001, math.MaxInt64} {
		if got := impl.AreTeams([]impl.Team{{Id: 1, Club: 1, Points: points}}); got != (points >= 0 && points <= 100000) {
			t.Errorf("AreTeams of a team with %d points is %v", points, got)
		}
	}
	for times := range 21 {
		for n := -1; n <= 22; n++ {
			wins, firsts := manyDebates(times, 5), manyDebates(times, 5)
			wins[1].Wins, firsts[1].Firsts = n, n
			if want := n >= 0 && n <= times; impl.AreTeams(wins) != want || impl.AreTeams(firsts) != want {
				t.Errorf("AreTeams is %v for %d wins and %v for as many firsts in %d debates", impl.AreTeams(wins), n, impl.AreTeams(firsts), times)
			}
		}
	}
}

func TestTeamsWhoHaveMet(t *testing.T) {
	// all lists of three teams that have met few others
	all := [][]int{}
	allLists([]int{5, 10, 15, 20}, 2, func(met []int) { all = append(all, slices.Clone(met)) })
	for _, a := range all {
		for _, b := range all {
			for _, c := range all {
				l := teamsOf(1, 1, 2)
				l[0].Met, l[1].Met, l[2].Met = a, b, c
				if got := impl.AreTeams(l); got != trueTeams(l) {
					t.Errorf("AreTeams(%v) is %v", l, got)
				}
			}
		}
	}
	l := teamsOf(1, 1, 2)
	l[0].Met, l[1].Met, l[2].Met = []int{10, 15, 10, 10}, []int{15, 5, 5, 5}, []int{10, 5}
	if !impl.AreTeams(l) {
		t.Errorf("%v are no teams", l)
	}
	l[2].Met = []int{5, 5}
	if impl.AreTeams(l) {
		t.Errorf("%v are teams", l)
	}
}

func TestFindTeam(t *testing.T) {
	for _, l := range append(sampleTeams(), badTeams()...) {
		for _, id := range []int{-5, 0, 1, 5, 6, 10, 15, 20, 25, 50, 55, 99, 100, math.MaxInt64, math.MinInt64} {
			want := slices.IndexFunc(l, func(x impl.Team) bool { return x.Id == id })
			if got := impl.FindTeam(l, id); got != want {
				t.Errorf("FindTeam(%v, %d) is %d, want %d", l, id, got, want)
			}
			for _, other := range []int{-5, 0, 4, 5, 10, 15, 20, 45, 50, 99} {
				met := want >= 0 && slices.Contains(l[want].Met, other)
				if got := impl.HaveMet(l, id, other); got != met {
					t.Errorf("HaveMet(%v, %d, %d) is %v", l, id, other, got)
				}
			}
		}
	}
	l := []impl.Team{{Id: 3, Met: []int{1}}, {Id: 7, Met: []int{2}}, {Id: 3, Met: []int{4}}, {Id: 7, Met: []int{5}}, {Id: -1, Met: []int{-1}}}
	if impl.FindTeam(l, 3) != 0 || impl.FindTeam(l, 7) != 1 || impl.FindTeam(l, -1) != 4 || impl.FindTeam(l, 4) != -1 || impl.FindTeam(nil, 0) != -1 {
		t.Errorf("FindTeam(%v, 3) is %d", l, impl.FindTeam(l, 3))
	}
	if !impl.HaveMet(l, 3, 1) || impl.HaveMet(l, 3, 4) || !impl.HaveMet(l, 7, 2) || impl.HaveMet(l, 7, 5) || !impl.HaveMet(l, -1, -1) || impl.HaveMet(l, 1, 3) || impl.HaveMet(nil, 0, 0) {
		t.Errorf("HaveMet(%v, 3, 1) is %v", l, impl.HaveMet(l, 3, 1))
	}
}

func TestAddResult(t *testing.T) {
	for i, l := range append(sampleTeams(), badTeams()...) {
		for _, d := range []debate{{5, 10, 1, 70, 65}, {10, 5, 1, 0, 1000}, {5, 15, 2, 1000, 0}, {15, 20, 2, 7, 7}, {50, 45, 1, 1, 2}, {5, 50, 2, 3, 0}} {
			expectResult(t, l, d)
		}
		if i%20 > 0 {
			continue
		}
		for _, id := range []int{0, 5, 10, 11, 50, -5} {
			for winner := -1; winner <= 4; winner++ {
				for _, points := range []int{-1, 0, 1, 999, 1000, 1001} {
					expectResult(t, l, debate{5, id, winner, points, 5})
					expectResult(t, l, debate{id, 10, winner, 5, points})
				}
			}
		}
	}
}

func TestDebatesThatCannotBe(t *testing.T) {
	l := debated(teamsOf(1, 2, 1), debate{5, 10, 1, 60, 61})
	if _, ok := (debate{5, 15, 1, 0, 1000}).addTo(l); !ok {
		t.Errorf("two teams of one club cannot debate")
	}
	for _, d := range []debate{
		{4, 10, 1, 60, 60}, {10, 4, 1, 60, 60}, {0, 10, 1, 60, 60}, {5, 99, 1, 60, 60}, {math.MinInt64, math.MaxInt64, 1, 60, 60},
		{5, 5, 1, 60, 60}, {10, 10, 2, 60, 60}, {7, 7, 1, 60, 60},
		{5, 10, 0, 60, 60}, {5, 10, 3, 60, 60}, {5, 10, -1, 60, 60}, {5, 10, 10, 60, 60}, {5, 10, 5, 60, 60}, {5, 10, math.MaxInt64, 60, 60},
		{5, 10, 1, -1, 60}, {5, 10, 1, 1001, 60}, {5, 10, 1, math.MinInt64, 60}, {5, 10, 1, math.MaxInt64, 60},
		{5, 10, 1, 60, -1}, {5, 10, 1, 60, 1001}, {5, 10, 1, 60, math.MinInt64}, {5, 10, 1, 60, math.MaxInt64},
		{5, 5, 0, 60, 60}, {5, 4, 3, -1, 60}, {5, 10, 1, -1, 1001},
	} {
		if got, ok := d.addTo(l); ok || !sameTeams(got, l) {
			t.Errorf("AddResult(%v, %v) is %v, %v", l, d, got, ok)
		}
	}
	for _, none := range [][]impl.Team{nil, {}} {
		if got, ok := (debate{5, 10, 1, 1, 1}).addTo(none); ok || len(got) != 0 {
			t.Errorf("AddResult of no teams is %v, %v", got, ok)
		}
	}
}

func TestResultsThatAreNotValid(t *testing.T) {
	for _, c := range []struct {
		l    []impl.Team
		d    debate
		want bool
	}{
		{manyDebates(19, 0), debate{5, 10, 2, 1, 1}, true},
		{manyDebates(20, 0), debate{5, 10, 2, 1, 1}, false},
		{manyDebates(1, 99000), debate{5, 10, 1, 1000, 1000}, true},
		{manyDebates(1, 99001), debate{5, 10, 1, 1000, 999}, false},
		{manyDebates(1, 99001), debate{5, 10, 1, 999, 1000}, false},
		{manyDebates(1, 99001), debate{5, 10, 1, 999, 999}, true},
		{manyDebates(1, 100000), debate{10, 5, 1, 0, 0}, true},
		{manyDebates(1, 100000), debate{10, 5, 1, 1, 0}, false},
		{manyDebates(1, 100000), debate{10, 5, 1, 0, 1}, false},
		{manyDebates(20, 100000), debate{10, 5, 1, 1, 1}, false},
	} {
		expectResult(t, c.l, c.d)
		if _, ok := c.d.addTo(c.l); ok != c.want {
			t.Errorf("AddResult(%v, %v) is %v", c.l, c.d, ok)
		}
	}
	// one team has met the most teams it can, and the other one has not
	l := append(manyDebates(20, 0), impl.Team{Id: 15, Club: 3})
	expectResult(t, l, debate{5, 15, 1, 1, 1})
	expectResult(t, l, debate{15, 10, 1, 1, 1})
	if _, ok := (debate{15, 10, 1, 1, 1}).addTo(l); ok {
		t.Errorf("a team has met 21 others")
	}
}

func TestEveryDebateHasOneWinner(t *testing.T) {
	next := numbersFrom(91)
	for count := 2; count <= 10; count++ {
		l := teamsOf(speakers(1, count)...)
		for debates := 1; debates <= 10*count; debates++ {
			d := debate{5 + 5*next(count), 5 + 5*next(count), 1 + next(2), next(1001), next(1001)}
			added, ok := d.addTo(l)
			if !ok {
				added, ok = debate{5, 10, 1, 1, 2}.addTo(l)
			}
			if !ok {
				break
			}
			l = added
			wins, firsts, met := 0, 0, 0
			for _, x := range l {
				wins, firsts, met = wins+x.Wins, firsts+x.Firsts, met+len(x.Met)
			}
			if impl.TotalWins(l) != debates || wins != debates || firsts != debates || met != 2*debates {
				t.Errorf("after %d debates there are %d wins, %d firsts and %d meetings", debates, impl.TotalWins(l), firsts, met)
			}
		}
	}
}

func TestStanding(t *testing.T) {
	for _, l := range sampleTeams() {
		ahead := func(a impl.Team, b impl.Team) bool {
			if a.Wins != b.Wins {
				return a.Wins > b.Wins
			}
			return a.Points > b.Points || a.Points == b.Points && a.Id < b.Id
		}
		want, wins := make([]int, len(l)), 0
		for _, x := range l {
			place := 0
			for _, other := range l {
				if ahead(other, x) {
					place++
				}
			}
			want[place] = x.Id
			wins += x.Wins
		}
		if got := impl.Standing(l); !slices.Equal(got, want) {
			t.Errorf("Standing(%v) is %v, want %v", l, got, want)
		}
		if got := impl.TotalWins(l); got != wins {
			t.Errorf("TotalWins(%v) is %d, want %d", l, got, wins)
		}
	}
	for _, l := range badTeams() {
		if len(impl.Standing(l)) != 0 || impl.TotalWins(l) != 0 {
			t.Errorf("Standing(%v) is %v, and TotalWins %d", l, impl.Standing(l), impl.TotalWins(l))
		}
	}
}

func TestStandingOfTeamsThatAreEven(t *testing.T) {
	l := teamsOf(1, 2, 3, 4)
	expect := func(want ...int) {
		t.Helper()
		if got := impl.Standing(l); !slices.Equal(got, want) {
			t.Errorf("Standing(%v) is %v, want %v", l, got, want)
		}
	}
	expect(5, 10, 15, 20)
	l[2].Points = 1
	expect(15, 5, 10, 20)
	l = debated(l, debate{5, 20, 2, 100, 0})
	expect(20, 5, 15, 10)
	l = debated(l, debate{10, 15, 1, 0, 99})
	expect(10, 20, 5, 15)
	l = debated(l, debate{15, 10, 1, 1, 1})
	expect(15, 10, 20, 5)
}

// expectFreshTeams fails if a change of one part of a result changes another part, or another result.
func expectFreshTeams(t *testing.T, result func() []impl.Team) {
	t.Helper()
	one, two := result(), result()
	want := cloneTeams(two)
	for i := range one {
		others := cloneTeams(one)
		spoilInts(one[i].Met)
		others[i].Met = one[i].Met
		if !sameTeams(one, others) {
			t.Errorf("parts of a result share memory: %v became %v", others, one)
		}
	}
	one = one[:cap(one)]
	for i := range one {
		one[i] = impl.Team{Id: -5}
	}
	if !sameTeams(two, want) {
		t.Errorf("two results share memory: %v became %v", want, two)
	}
}

// spaciousTeams returns a copy of l in which the list and each Met have spare capacity, and a function that fails if
// anything of it, the spare capacity included, has changed.
func spaciousTeams(l []impl.Team) ([]impl.Team, func(t *testing.T)) {
	roomy, mets := append(cloneTeams(l), impl.Team{Id: -9}, impl.Team{Id: -9}), [][]int{}
	for _, x := range l {
		mets = append(mets, x.Met)
	}
	roomyMets, expectSame := spaciousLists(mets)
	for i := range l {
		roomy[i].Met = roomyMets[i]
	}
	want := cloneTeams(roomy)
	return roomy[:len(l)], func(t *testing.T) {
		t.Helper()
		expectSame(t)
		if !sameTeams(roomy, want) {
			t.Errorf("%v became %v", want, roomy)
		}
	}
}

func TestTeamFunctionsShareNoMemory(t *testing.T) {
	for i, l := range append(sampleTeams(), badTeams()...) {
		roomy, expectSame := spaciousTeams(l)
		for _, d := range []debate{{5, 10, 1, 70, 65}, {15, 5, 2, 70, 65}, {5, 5, 1, 70, 65}, {5, 10, 1, 70, 1001}} {
			expectFreshTeams(t, func() []impl.Team { added, _ := d.addTo(roomy); return added })
		}
		expectFreshInts(t, func() []int { return impl.Standing(roomy) })
		impl.AreTeams(roomy)
		impl.FindTeam(roomy, 5*i%50)
		impl.HaveMet(roomy, 5, 10)
		impl.TotalWins(roomy)
		expectSame(t)
	}
	full, expectSame := spaciousTeams(manyDebates(20, 100000))
	expectFreshTeams(t, func() []impl.Team { added, _ := impl.AddResult(full, 5, 10, 1, 1, 1); return added })
	expectSame(t)
}
