package tests

import (
	"math"
	"slices"
	"testing"

	"loop.example/g03009/impl"
)

// judgesOf returns judges with the Ids 3, 6, 9 and so on of these clubs, who have seen nobody.
func judgesOf(clubs ...int) []impl.Judge {
	l := []impl.Judge{}
	for i, club := range clubs {
		l = append(l, impl.Judge{Id: 3*i + 3, Club: club})
	}
	return l
}

// seen returns a copy of the judges in which each one has seen the teams of one list.
func seen(l []impl.Judge, lists ...[]int) []impl.Judge {
	l = slices.Clone(l)
	for i := range lists {
		l[i].Seen = lists[i]
	}
	return l
}

// badJudges are lists that are not valid, for each reason and for two at once.
func badJudges() [][]impl.Judge {
	lists := [][]impl.Judge{make([]impl.Judge, 1), make([]impl.Judge, 11), judgesOf(speakers(50, 11)...), judgesOf(speakers(50, 30)...)}
	for place := range 3 {
		for _, spoil := range []func(j *impl.Judge){
			func(j *impl.Judge) { j.Id = 0 },
			func(j *impl.Judge) { j.Id = -1 },
			func(j *impl.Judge) { j.Id = 100 },
			func(j *impl.Judge) { j.Id = math.MaxInt64 },
			func(j *impl.Judge) { j.Id = math.MinInt64 },
			func(j *impl.Judge) { j.Id = 3 + 3*((place+1)%3) },
			func(j *impl.Judge) { j.Id = 3 + 3*((place+2)%3) },
			func(j *impl.Judge) { j.Club = 0 },
			func(j *impl.Judge) { j.Club = -1 },
			func(j *impl.Judge) { j.Club = 100 },
			func(j *impl.Judge) { j.Club = math.MinInt64 },
			func(j *impl.Judge) { j.Seen = []int{0} },
			func(j *impl.Judge) { j.Seen = []int{100} },
			func(j *impl.Judge) { j.Seen = []int{-1, 5} },
			func(j *impl.Judge) { j.Seen = []int{5, 10, 100} },
			func(j *impl.Judge) { j.Seen = []int{5, 5} },
			func(j *impl.Judge) { j.Seen = []int{6, 5} },
			func(j *impl.Judge) { j.Seen = []int{1, 2, 4, 3} },
			func(j *impl.Judge) { j.Seen = []int{math.MinInt64, math.MaxInt64} },
			func(j *impl.Judge) { j.Club = 0; j.Seen = []int{2, 1} },
		} {
			bad := judgesOf(50, 51, 50)
			spoil(&bad[place])
			lists = append(lists, bad)
		}
	}
	return lists
}

// trueJudges says anew whether judges are valid.
func trueJudges(l []impl.Judge) bool {
	last := 0
	for _, j := range l {
		if j.Id <= last || j.Id > 99 || j.Club < 1 || j.Club > 99 {
			return false
		}
		last = j.Id
		lastSeen := 0
		for _, id := range j.Seen {
			if id <= lastSeen || id > 99 {
				return false
			}
			lastSeen = id
		}
	}
	return len(l) <= 10
}

// trueJudge says anew whether a judge may judge a pair.
func trueJudge(t []impl.Team, j impl.Judge, p impl.Pair) bool {
	first, isFirst := teamWith(t, p.First)
	second, isSecond := teamWith(t, p.Second)
	return isFirst && isSecond && first.Club != j.Club && second.Club != j.Club && !slices.Contains(j.Seen, p.First) && !slices.Contains(j.Seen, p.Second)
}

// trueSeats tries out anew who can judge the pairs from one on, each pair with the earlier judges first.
func trueSeats(t []impl.Team, l []impl.Judge, r []impl.Pair, seats []int) ([]int, bool) {
	if len(seats) == len(r) {
		return seats, true
	}
	for _, j := range l {
		if slices.Contains(seats, j.Id) || !trueJudge(t, j, r[len(seats)]) {
			continue
		}
		if all, ok := trueSeats(t, l, r, append(slices.Clip(seats), j.Id)); ok {
			return all, true
		}
	}
	return []int{}, false
}

// hearing is what judges are seated for.
type hearing struct {
	t []impl.Team
	l []impl.Judge
	r []impl.Pair
}

// sampleHearings have up to ten judges, of whom some are of the clubs of the teams or have seen them.
func sampleHearings() []hearing {
	samples := []hearing{}
	next := numbersFrom(21)
	for i := range 3000 {
		h := hearing{t: teamsOf(1, 2, 3, 4, 5, 6, 7, 8, 9, 10)}
		clubs := []int{}
		for range next(11) {
			clubs = append(clubs, 1+next(20))
		}
		h.l = judgesOf(clubs...)
		for place := range h.l {
			for id := 5; id <= 55; id += 5 {
				if next(10) < i%5 {
					h.l[place].Seen = append(h.l[place].Seen, id)
				}
			}
		}
		order := shuffled(10, next)
		for range next(min(len(clubs), 5) + 2) {
			h.r = append(h.r, impl.Pair{First: 5 * (1 + order[0]), Second: 5 * (1 + order[1])})
			order = append(order[2:], order[:2]...)
		}
		samples = append(samples, h)
	}
	return samples
}

func TestAreJudges(t *testing.T) {
	for _, h := range sampleHearings() {
		if !impl.AreJudges(h.l) || !trueJudges(h.l) {
			t.Errorf("%v are no judges", h.l)
		}
	}
	for _, l := range badJudges() {
		if impl.AreJudges(l) || trueJudges(l) {
			t.Errorf("%v are judges", l)
		}
	}
	for count := range 15 {
		if got := impl.AreJudges(judgesOf(slices.Repeat([]int{99}, count)...)); got != (count <= 10) {
			t.Errorf("AreJudges of %d judges is %v", count, got)
		}
	}
	for n := -2; n <= 103; n++ {
		want := n >= 1 && n <= 99
		for _, j := range []impl.Judge{{Id: n, Club: 1}, {Id: 1, Club: n}, {Id: 1, Club: 1, Seen: []int{n}}} {
			if got := impl.AreJudges([]impl.Judge{j}); got != want {
				t.Errorf("AreJudges(%v) is %v", j, got)
			}
		}
	}
	all := speakers(1, 99)
	if !impl.AreJudges(seen(judgesOf(1, 1), all, all)) || impl.AreJudges(seen(judgesOf(1), append(all, 100))) || impl.AreJudges(seen(judgesOf(1), speakers(0, 99))) {
		t.Errorf("judges who have seen all are not valid, or others are")
	}
	allLists([]int{0, 1, 2, 3, 99, 100}, 4, func(list []int) {
		l := seen(judgesOf(7), list)
		if got := impl.AreJudges(l); got != trueJudges(l) {
			t.Errorf("AreJudges(%v) is %v", l, got)
		}
	})
}

func TestMayJudge(t *testing.T) {
	teams := teamsOf(1, 2, 3)
	for _, c := range []struct {
		club int
		seen []int
		p    impl.Pair
		want bool
	}{
		{4, nil, impl.Pair{First: 5, Second: 10}, true},
		{4, nil, impl.Pair{First: 10, Second: 5}, true},
		{3, []int{15}, impl.Pair{First: 5, Second: 10}, true},
		{4, []int{1, 15, 99}, impl.Pair{First: 5, Second: 10}, true},
		// of the club of one, or of both
		{1, nil, impl.Pair{First: 5, Second: 10}, false},
		{2, nil, impl.Pair{First: 5, Second: 10}, false},
		{3, nil, impl.Pair{First: 15, Second: 10}, false},
		{3, nil, impl.Pair{First: 15, Second: 15}, false},
		// has seen one, or both
		{4, []int{5}, impl.Pair{First: 5, Second: 10}, false},
		{4, []int{10}, impl.Pair{First: 5, Second: 10}, false},
		{4, []int{5, 10}, impl.Pair{First: 5, Second: 10}, false},
		{4, []int{1, 5, 9}, impl.Pair{First: 10, Second: 5}, false},
		{1, []int{10}, impl.Pair{First: 5, Second: 10}, false},
		// no teams
		{4, nil, impl.Pair{First: 5, Second: 20}, false},
		{4, nil, impl.Pair{First: 20, Second: 5}, false},
		{4, nil, impl.Pair{}, false},
		{4, nil, impl.Pair{First: math.MinInt64, Second: math.MaxInt64}, false},
		{0, nil, impl.Pair{First: 5, Second: 0}, false},
		// who is no valid judge may judge like others
		{0, nil, impl.Pair{First: 5, Second: 10}, true},
		{-7, []int{15, 15, 3}, impl.Pair{First: 5, Second: 10}, true},
		{100, []int{10, 5}, impl.Pair{First: 5, Second: 10}, false},
	} {
		j := impl.Judge{Id: 3, Club: c.club, Seen: c.seen}
		if got := impl.MayJudge(teams, j, c.p); got != c.want {
			t.Errorf("MayJudge of %v and %v is %v", j, c.p, got)
		}
		if impl.MayJudge(nil, j, c.p) {
			t.Errorf("MayJudge of %v and %v is true where there are no teams", j, c.p)
		}
	}
	for _, l := range append(sampleTeams(), badTeams()...) {
		for _, j := range seen(judgesOf(1, 2, 3, 50), nil, []int{10}, []int{5, 15}) {
			for _, p := range []impl.Pair{{First: 5, Second: 10}, {First: 10, Second: 15}, {First: 15, Second: 50}, {First: 5, Second: 5}, {First: -5, Second: 10}} {
				if got := impl.MayJudge(l, j, p); got != trueJudge(l, j, p) {
					t.Errorf("MayJudge of %v, %v and %v is %v", l, j, p, got)
				}
			}
		}
	}
}

func TestJudgesAreFoundIfThereAreSome(t *testing.T) {
	found, none := 0, 0
	for _, h := range sampleHearings() {
		want, fine := trueSeats(h.t, h.l, h.r, []int{})
		got, ok := impl.SeatJudges(h.t, h.l, h.r)
		if ok != fine || !slices.Equal(got, want) {
			t.Errorf("SeatJudges(%v, %v) is %v, %v, want %v, %v", h.l, h.r, got, ok, want, fine)
		}
		if ok && !impl.AreSeated(h.t, h.l, h.r, got) {
			t.Errorf("AreSeated(%v, %v, %v) is false", h.l, h.r, got)
		}
		if fine && len(want) > 1 {
			found++
		} else if !fine && len(h.r) <= len(h.l) {
			none++
		}
	}
	if found < 200 || none < 200 {
		t.Errorf("%d samples have judges, and %d have none", found, none)
	}
}

func TestSeatJudges(t *testing.T) {
	teams := teamsOf(1, 2, 3, 4, 5, 6)
	r := []impl.Pair{{First: 5, Second: 10}, {First: 15, Second: 20}, {First: 25, Second: 30}}
	all := []int{5, 10, 15, 20, 25, 30}
	for _, c := range []struct {
		l    []impl.Judge
		want []int
	}{
		{judgesOf(9, 9, 9), []int{3, 6, 9}},
		{judgesOf(9, 9, 9, 9), []int{3, 6, 9}},
		// the first judge is needed by the last pair
		{seen(judgesOf(9, 9, 9), nil, []int{25}, []int{30}), []int{6, 9, 3}},
		{judgesOf(9, 5, 6), []int{6, 9, 3}},
		// each one can judge one pair only
		{seen(judgesOf(9, 9, 9), []int{5, 15}, []int{10, 30}, []int{20, 25}), []int{9, 6, 3}},
		// the second judge can judge all, and is needed by the second pair
		{seen(judgesOf(9, 9, 9), []int{15}, nil, []int{20}), []int{3, 6, 9}},
		{seen(judgesOf(9, 9, 9), []int{15, 25}, nil, []int{15}), []int{3, 6, 9}},
		{seen(judgesOf(9, 9, 9), []int{15}, []int{5, 15}, nil), []int{3, 9, 6}},
		// judges who have seen all
		{seen(judgesOf(9, 9, 9), all, all, all), nil},
		{seen(judgesOf(9, 9, 9, 9), nil, all, nil, nil), []int{3, 9, 12}},
		{seen(judgesOf(9, 9, 9), nil, all, nil), nil},
		{seen(judgesOf(9, 9, 9, 9), nil, all, nil, all), nil},
		// two judges for one pair, and one for two of them
		{seen(judgesOf(9, 9, 9), []int{15, 25}, []int{15, 25}, nil), nil},
		// too few
		{judgesOf(9, 9), nil},
		{nil, nil},
	} {
		got, ok := impl.SeatJudges(teams, c.l, r)
		if ok != (c.want != nil) || !slices.Equal(got, c.want) {
			t.Errorf("SeatJudges(%v) is %v, %v, want %v", c.l, got, ok, c.want)
		}
		if free := impl.FreeJudges(c.l, got); len(free) != len(c.l)-len(got) {
			t.Errorf("FreeJudges(%v, %v) is %v", c.l, got, free)
		}
	}
	if got, ok := impl.SeatJudges(teams, judgesOf(9, 9), []impl.Pair{r[0], {First: 5, Second: 35}}); ok || len(got) != 0 {
		t.Errorf("SeatJudges for a pair of what is no team is %v", got)
	}
	// the pairs need not be a round
	twice := slices.Repeat(r[:1], 10)
	if got, ok := impl.SeatJudges(teams, judgesOf(slices.Repeat([]int{9}, 10)...), twice); !ok || !slices.Equal(got, []int{3, 6, 9, 12, 15, 18, 21, 24, 27, 30}) {
		t.Errorf("SeatJudges for ten pairs is %v", got)
	}
	if got, ok := impl.SeatJudges(teams, judgesOf(slices.Repeat([]int{9}, 10)...), append(twice, r[0])); ok || len(got) != 0 {
		t.Errorf("SeatJudges for eleven pairs is %v", got)
	}
	if got, ok := impl.SeatJudges(teams, judgesOf(9, 9), slices.Repeat(r, 10000)); ok || len(got) != 0 {
		t.Errorf("SeatJudges for many pairs is %v", got)
	}
}

func TestSeatJudgesOfWhatIsNotValid(t *testing.T) {
	r := []impl.Pair{{First: 5, Second: 10}}
	for _, l := range badJudges() {
		for _, pairs := range [][]impl.Pair{nil, r} {
			for _, teams := range [][]impl.Team{teamsOf(1, 2), nil, badTeams()[5]} {
				if got, ok := impl.SeatJudges(teams, l, pairs); ok || len(got) != 0 {
					t.Errorf("SeatJudges of %v, %v and %v is %v", teams, l, pairs, got)
				}
			}
		}
		if impl.AreSeated(teamsOf(1, 2), l, nil, nil) || len(l) > 0 && impl.AreSeated(teamsOf(1, 2), l, r, []int{l[0].Id}) {
			t.Errorf("judges are seated who are not valid: %v", l)
		}
	}
	for _, teams := range badTeams() {
		for _, pairs := range [][]impl.Pair{nil, r} {
			if got, ok := impl.SeatJudges(teams, judgesOf(9, 9), pairs); ok || len(got) != 0 {
				t.Errorf("SeatJudges of %v and %v is %v", teams, pairs, got)
			}
		}
	}
	for _, none := range [][]impl.Judge{nil, {}} {
		for _, teams := range [][]impl.Team{nil, {}, teamsOf(1, 2)} {
			if got, ok := impl.SeatJudges(teams, none, nil); !ok || len(got) != 0 || !impl.AreSeated(teams, none, nil, nil) {
				t.Errorf("SeatJudges of nobody for nobody is %v, %v", got, ok)
			}
			if got, ok := impl.SeatJudges(teams, none, r); ok || len(got) != 0 {
				t.Errorf("SeatJudges of nobody is %v, %v", got, ok)
			}
		}
	}
}

func TestAreSeated(t *testing.T) {
	next := numbersFrom(121)
	for i, h := range sampleHearings() {
		if i%5 == 0 {
			h.t = badTeams()[i%40]
		}
		for range 20 {
			ids := []int{}
			for range len(h.r) + next(8)/6 - next(8)/7 {
				ids = append(ids, 3*next(len(h.l)+1)+next(9)/8)
			}
			if seats, ok := trueSeats(h.t, h.l, h.r, []int{}); ok && next(4) == 0 {
				ids = slices.Clone(seats)
			}
			want := len(ids) == len(h.r)
			for place, id := range ids {
				judge := slices.IndexFunc(h.l, func(j impl.Judge) bool { return j.Id == id })
				want = want && judge >= 0 && !slices.Contains(ids[:place], id) && trueJudge(h.t, h.l[judge], h.r[place])
			}
			if got := impl.AreSeated(h.t, h.l, h.r, ids); got != want {
				t.Errorf("AreSeated(%v, %v, %v, %v) is %v", h.t, h.l, h.r, ids, got)
			}
		}
	}
	teams, l, r := teamsOf(1, 2, 3, 4), judgesOf(9, 1, 9), []impl.Pair{{First: 5, Second: 10}, {First: 15, Second: 20}}
	for _, c := range []struct {
		ids  []int
		want bool
	}{
		{[]int{3, 6}, true}, {[]int{9, 6}, true}, {[]int{3, 9}, true}, {[]int{9, 3}, true},
		{[]int{6, 3}, false}, {[]int{3, 3}, false}, {[]int{3, 4}, false}, {[]int{0, 3}, false}, {[]int{3, math.MaxInt64}, false},
		{nil, false}, {[]int{3}, false}, {[]int{3, 6, 9}, false}, {[]int{3, 6, 0}, false},
	} {
		if got := impl.AreSeated(teams, l, r, c.ids); got != c.want {
			t.Errorf("AreSeated of %v is %v", c.ids, got)
		}
	}
}

func TestFreeJudges(t *testing.T) {
	for _, l := range append(badJudges(), nil, judgesOf(9), judgesOf(9, 9, 9), judgesOf(slices.Repeat([]int{1}, 10)...)) {
		for _, ids := range [][]int{nil, {}, {3}, {6}, {9, 3}, {3, 3}, {0}, {4, 5}, {30, 27, 3, 100}, speakers(1, 99), {math.MinInt64, -1}} {
			want := []int{}
			for _, j := range l {
				isFree := true
				for _, id := range ids {
					isFree = isFree && id != j.Id
				}
				if isFree {
					want = append(want, j.Id)
				}
			}
			if got := impl.FreeJudges(l, ids); !slices.Equal(got, want) {
				t.Errorf("FreeJudges(%v, %v) is %v, want %v", l, ids, got, want)
			}
		}
	}
}

func TestJudgeFunctionsShareNoMemory(t *testing.T) {
	for i, h := range sampleHearings() {
		if i%10 > 0 {
			continue
		}
		if i%200 == 0 {
			h.l = badJudges()[i/100]
		}
		teams, expectSameTeams := spaciousTeams(h.t)
		lists := [][]int{}
		for _, j := range h.l {
			lists = append(lists, j.Seen)
		}
		roomySeen, expectSameSeen := spaciousLists(lists)
		under := append(seen(h.l, roomySeen...), impl.Judge{Id: -9}, impl.Judge{Id: -9})
		l, wantJudges := under[:len(h.l)], slices.Clone(under)
		r, isSameRound := withSpare(h.r, impl.Pair{First: -9, Second: -9})
		ids, isSameIds := withSpare(impl.FreeJudges(h.l, nil), -9)
		expectFreshInts(t, func() []int { seats, _ := impl.SeatJudges(teams, l, r); return seats })
		expectFreshInts(t, func() []int { return impl.FreeJudges(l, ids[:len(ids)/2]) })
		impl.AreJudges(l)
		impl.AreSeated(teams, l, r, ids)
		for _, j := range l {
			impl.MayJudge(teams, j, impl.Pair{First: 5, Second: 10})
		}
		expectSameTeams(t)
		expectSameSeen(t)
		isSameJudges := slices.EqualFunc(under, wantJudges, func(a impl.Judge, b impl.Judge) bool {
			return a.Id == b.Id && a.Club == b.Club && slices.Equal(a.Seen, b.Seen)
		})
		if !isSameJudges || !isSameRound() || !isSameIds() {
			t.Errorf("%v, %v or %v is changed", h.l, h.r, ids)
		}
	}
}
