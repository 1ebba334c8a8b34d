package tests

import (
	"math"
	"slices"
	"testing"

	"loop.example/g03009/impl"
)

// pointsOf returns points with the Ids 10, 20, 30 and so on, and the Whos and States of the pairs.
func pointsOf(pairs ...[2]int) []impl.Point {
	l := []impl.Point{}
	for i, p := range pairs {
		l = append(l, impl.Point{Id: 10*i + 10, Who: p[0], State: p[1]})
	}
	return l
}

// manyPoints returns open points of both sides with the Ids from 1 to count.
func manyPoints(count int) []impl.Point {
	l := []impl.Point{}
	for i := range count {
		l = append(l, impl.Point{Id: i + 1, Who: i%2 + 1})
	}
	return l
}

// samplePoints are all lists of up to three points with the Ids 10, 20 and 30, and the longest ones.
func samplePoints() [][]impl.Point {
	l := [][]impl.Point{nil, manyPoints(29), manyPoints(30)}
	allLists([]int{0, 1, 2, 3, 4, 5, 6, 7, 8, 9}, 3, func(kinds []int) {
		pairs := [][2]int{}
		for _, kind := range kinds {
			pairs = append(pairs, [2]int{kind/5 + 1, kind % 5})
		}
		l = append(l, pointsOf(pairs...))
	})
	return l
}

// badPoints are points that are not valid, for each reason and for two at once.
func badPoints() []impl.Point {
	return []impl.Point{
		{},
		{Id: 0, Who: 1},
		{Id: -1, Who: 1},
		{Id: 100, Who: 1},
		{Id: math.MaxInt64, Who: 2},
		{Id: math.MinInt64, Who: 2},
		{Id: 15, Who: 0},
		{Id: 15, Who: -1},
		{Id: 15, Who: 3},
		{Id: 15, Who: math.MaxInt64},
		{Id: 15, Who: math.MinInt64},
		{Id: 15, Who: 1, State: -1},
		{Id: 15, Who: 2, State: 5},
		{Id: 15, Who: 2, State: math.MaxInt64},
		{Id: 15, Who: 2, State: math.MinInt64},
		{Id: 0, Who: 3, State: 2},
		{Id: 15, Who: 0, State: 5},
		{Id: 100, Who: 1, State: -1},
	}
}

// badPointLists are lists that are not valid, for each reason and for two at once.
func badPointLists() [][]impl.Point {
	a, b, c := impl.Point{Id: 10, Who: 1}, impl.Point{Id: 20, Who: 2}, impl.Point{Id: 30, Who: 1, State: impl.BdDenied}
	l := [][]impl.Point{
		{b, a},
		{a, a},
		{a, c, b},
		{b, a, c},
		{a, b, b},
		{a, {Id: 10, Who: 2, State: impl.BdShown}},
		manyPoints(31),
		manyPoints(99),
		append(manyPoints(29), impl.Point{Id: 29, Who: 1}),
		append(manyPoints(31), impl.Point{}),
		make([]impl.Point, 40),
	}
	for _, bad := range badPoints() {
		l = append(l, []impl.Point{bad}, []impl.Point{a, bad}, []impl.Point{bad, b}, []impl.Point{a, bad, b, c})
	}
	return l
}

// trueSpeaker says anew which side must speak about a point, or 0.
func trueSpeaker(p impl.Point) int {
	return map[[2]int]int{{1, 0}: 2, {2, 0}: 1, {1, 2}: 1, {2, 2}: 2}[[2]int{p.Who, p.State}]
}

// trueReply says anew whether a side can reply to a point with a state.
func trueReply(p impl.Point, who int, state int) bool {
	replies := map[int][]int{0: {1, 2}, 2: {3, 4}}[p.State]
	return who != 0 && trueSpeaker(p) == who && slices.Contains(replies, state)
}

func expectPoints(t *testing.T, what string, got []impl.Point, ok bool, want []impl.Point, fine bool) {
	t.Helper()
	if ok != fine || !slices.Equal(got, want) {
		t.Errorf("%s is %v, %v, want %v, %v", what, got, ok, want, fine)
	}
}

func TestArePoints(t *testing.T) {
	for _, l := range samplePoints() {
		if !impl.ArePoints(l) {
			t.Errorf("%v are no points", l)
		}
	}
	for _, l := range badPointLists() {
		if impl.ArePoints(l) {
			t.Errorf("%v are points", l)
		}
	}
	for id := -2; id <= 102; id++ {
		for who := -1; who <= 4; who++ {
			for state := -2; state <= 6; state++ {
				want := id >= 1 && id <= 99 && (who == 1 || who == 2) && state >= 0 && state <= 4
				if got := impl.ArePoints([]impl.Point{{Id: id, Who: who, State: state}}); got != want {
					t.Errorf("ArePoints of %d, %d, %d is %v", id, who, state, got)
				}
			}
		}
	}
	for count := range 40 {
		if got := impl.ArePoints(manyPoints(count)); got != (count <= 30) {
			t.Errorf("ArePoints of %d points is %v", count, got)
		}
	}
}

func TestRaise(t *testing.T) {
	for _, l := range samplePoints() {
		for _, id := range []int{1, 5, 9, 10, 11, 15, 19, 20, 21, 25, 29, 30, 31, 98, 99} {
			for who := 1; who <= 2; who++ {
				want := append(slices.Clone(l), impl.Point{Id: id, Who: who})
				slices.SortFunc(want, func(a, b impl.Point) int { return a.Id - b.Id })
				there := slices.ContainsFunc(l, func(p impl.Point) bool { return p.Id == id })
				got, ok := impl.Raise(l, id, who)
				if there || len(l) == 30 {
					expectPoints(t, "Raise of one too many", got, ok, l, false)
				} else {
					expectPoints(t, "Raise", got, ok, want, true)
				}
			}
		}
	}
}

func TestRaiseUpToTheLimit(t *testing.T) {
	l := []impl.Point{}
	for i := range 30 {
		// in no order
		raised, ok := impl.Raise(l, i*37%99+1, i%2+1)
		if !ok || len(raised) != i+1 || !impl.ArePoints(raised) {
			t.Fatalf("Raise of the point %d is %v, %v", i, raised, ok)
		}
		l = raised
	}
	for id := range 110 {
		got, ok := impl.Raise(l, id, 1)
		expectPoints(t, "Raise of a point more than 30", got, ok, l, false)
	}
}

func TestRaiseOfWhatIsNotValid(t *testing.T) {
	for _, l := range [][]impl.Point{nil, pointsOf([2]int{1, 0}), pointsOf([2]int{1, 2}, [2]int{2, 1})} {
		for _, bad := range badPoints() {
			// An open point is put there, whatever the State is, so that just these two can be wrong.
			if bad.Id != 15 || bad.Who != 1 && bad.Who != 2 {
				got, ok := impl.Raise(l, bad.Id, bad.Who)
				expectPoints(t, "Raise of a bad point", got, ok, l, false)
			}
		}
		for _, id := range []int{0, -1, 100, 10} {
			for _, who := range []int{0, 3, -1} {
				got, ok := impl.Raise(l, id, who)
				expectPoints(t, "Raise of a point with two faults", got, ok, l, false)
			}
		}
	}
	for _, l := range badPointLists() {
		for _, id := range []int{1, 5, 10, 12, 15, 17, 20, 25, 30, 50, 99, 0, 100} {
			for who := range 4 {
				got, ok := impl.Raise(l, id, who)
				expectPoints(t, "Raise in a bad list", got, ok, l, false)
			}
		}
	}
}

func TestOnlyWhoMustSpeakAboutAPointCan(t *testing.T) {
	for _, l := range samplePoints() {
		for id := range 45 {
			place := slices.IndexFunc(l, func(p impl.Point) bool { return p.Id == id })
			for who := -1; who <= 4; who++ {
				must := slices.Contains(impl.MustSpeak(l, who), id)
				can := false
				for state := -1; state <= 5; state++ {
					want := slices.Clone(l)
					fine := place >= 0 && trueReply(l[place], who, state)
					if fine {
						want[place].State = state
					}
					got, ok := impl.Reply(l, id, who, state)
					expectPoints(t, "Reply", got, ok, want, fine)
					can = can || ok
				}
				if must != can {
					t.Errorf("side %d must speak about %d of %v: %v, and can: %v", who, id, l, must, can)
				}
			}
		}
	}
}

func TestReplyOfFarNumbers(t *testing.T) {
	far := []int{math.MinInt64, math.MaxInt64, -3, 7, 99, 1 << 32, 1<<32 + 1}
	for _, l := range [][]impl.Point{pointsOf([2]int{1, 0}), pointsOf([2]int{1, 2}, [2]int{2, 0}), pointsOf([2]int{1, 1}, [2]int{2, 3}, [2]int{1, 4})} {
		for _, n := range far {
			for _, reply := range [][3]int{{n, 1, 1}, {n, 2, 2}, {10, n, 1}, {10, n, 3}, {10, 1, n}, {10, 2, n}, {20, 1, n}, {n, n, n}} {
				got, ok := impl.Reply(l, reply[0], reply[1], reply[2])
				expectPoints(t, "Reply of far numbers", got, ok, l, false)
			}
		}
	}
}

func TestReplyInBadLists(t *testing.T) {
	for _, l := range badPointLists() {
		for _, id := range []int{-1, 0, 1, 2, 10, 15, 20, 30, 100, math.MinInt64, math.MaxInt64} {
			for who := -1; who <= 4; who++ {
				for state := range 5 {
					got, ok := impl.Reply(l, id, who, state)
					expectPoints(t, "Reply in a bad list", got, ok, l, false)
				}
			}
		}
	}
}

func TestAPointToTheEnd(t *testing.T) {
	l, ok := impl.Raise(nil, 7, 2)
	expectPoints(t, "Raise", l, ok, []impl.Point{{Id: 7, Who: 2, State: impl.BdOpen}}, true)
	granted, ok := impl.Reply(l, 7, 1, impl.BdGranted)
	expectPoints(t, "a granted point", granted, ok, []impl.Point{{Id: 7, Who: 2, State: impl.BdGranted}}, true)
	denied, ok := impl.Reply(l, 7, 1, impl.BdDenied)
	expectPoints(t, "a denied point", denied, ok, []impl.Point{{Id: 7, Who: 2, State: impl.BdDenied}}, true)
	shown, ok := impl.Reply(denied, 7, 2, impl.BdShown)
	expectPoints(t, "a shown point", shown, ok, []impl.Point{{Id: 7, Who: 2, State: impl.BdShown}}, true)
	dropped, ok := impl.Reply(denied, 7, 2, impl.BdDropped)
	expectPoints(t, "a dropped point", dropped, ok, []impl.Point{{Id: 7, Who: 2, State: impl.BdDropped}}, true)
	for _, end := range [][]impl.Point{granted, shown, dropped} {
		for who := range 4 {
			for state := range 6 {
				got, ok := impl.Reply(end, 7, who, state)
				expectPoints(t, "Reply to what is settled", got, ok, end, false)
			}
		}
		if !impl.IsSettled(end) || impl.IsSettled(l) || impl.IsSettled(denied) {
			t.Errorf("%v is not settled, or what was before it is", end)
		}
	}
	for i, want := range []int{0, 1, 0, 1, -1} {
		if got := impl.Won([][]impl.Point{l, granted, denied, shown, dropped}[i], 2); got != want {
			t.Errorf("with the state %d side 2 has won %d, want %d", i, got, want)
		}
	}
}

func TestMustSpeak(t *testing.T) {
	for _, l := range samplePoints() {
		for _, side := range []int{-1, 0, 1, 2, 3, 4, math.MinInt64, math.MaxInt64} {
			want := []int{}
			for _, p := range l {
				if side > 0 && trueSpeaker(p) == side {
					want = append(want, p.Id)
				}
			}
			if got := impl.MustSpeak(l, side); !slices.Equal(got, want) {
				t.Errorf("MustSpeak(%v, %d) is %v, want %v", l, side, got, want)
			}
		}
	}
	for _, l := range badPointLists() {
		for side := -1; side <= 4; side++ {
			if got := impl.MustSpeak(l, side); len(got) != 0 {
				t.Errorf("MustSpeak(%v, %d) is %v", l, side, got)
			}
		}
	}
}

func TestWon(t *testing.T) {
	for _, l := range samplePoints() {
		for side := -1; side <= 4; side++ {
			want := 0
			for _, p := range l {
				if p.Who == side {
					want += []int{0, 1, 0, 1, -1}[p.State]
				}
			}
			if got := impl.Won(l, side); got != want {
				t.Errorf("Won(%v, %d) is %d, want %d", l, side, got, want)
			}
		}
	}
	// the chapter names no fallback: what is not in order counts likewise
	l := []impl.Point{{Id: 20, Who: 1, State: impl.BdShown}, {Id: 10, Who: 1, State: impl.BdGranted}, {Id: 10, Who: 2, State: impl.BdDropped}}
	if impl.Won(l, 1) != 2 || impl.Won(l, 2) != -1 {
		t.Errorf("Won is %d and %d", impl.Won(l, 1), impl.Won(l, 2))
	}
}

func TestIsSettled(t *testing.T) {
	for _, l := range samplePoints() {
		want := !slices.ContainsFunc(l, func(p impl.Point) bool { return p.State == 0 || p.State == 2 })
		if got := impl.IsSettled(l); got != want || got != (len(impl.MustSpeak(l, 1))+len(impl.MustSpeak(l, 2)) == 0) {
			t.Errorf("IsSettled(%v) is %v", l, got)
		}
	}
	settled := manyPoints(31)
	for i := range settled {
		settled[i].State = impl.BdShown
	}
	if !impl.IsSettled(settled[:30]) || impl.IsSettled(settled) {
		t.Errorf("30 points are not settled, or 31 are")
	}
	for _, l := range append(badPointLists(), []impl.Point{settled[1], settled[0]}) {
		if impl.IsSettled(l) {
			t.Errorf("%v is settled", l)
		}
	}
}

// spoilPoints overwrites all memory of a list, the spare capacity included.
func spoilPoints(l []impl.Point) {
	l = l[:cap(l)]
	for i := range l {
		l[i] = impl.Point{Id: -5, Who: -5, State: -5}
	}
}

func TestBurdenFunctionsShareNoMemory(t *testing.T) {
	spare := impl.Point{Id: -9, Who: -9, State: -9}
	for _, l := range append(samplePoints(), badPointLists()...) {
		under := append(slices.Clone(l), spare, spare, spare)
		roomy := under[:len(l)]
		for _, result := range []func() []impl.Point{
			func() []impl.Point { r, _ := impl.Raise(roomy, 5, 1); return r },
			func() []impl.Point { r, _ := impl.Raise(roomy, 15, 1); return r },
			func() []impl.Point { r, _ := impl.Raise(roomy, 99, 2); return r },
			func() []impl.Point { r, _ := impl.Raise(roomy, 10, 2); return r },
			func() []impl.Point { r, _ := impl.Reply(roomy, 10, 2, impl.BdDenied); return r },
			func() []impl.Point { r, _ := impl.Reply(roomy, 10, 1, impl.BdShown); return r },
			func() []impl.Point { r, _ := impl.Reply(roomy, 10, 1, impl.BdOpen); return r },
		} {
			one, two := result(), result()
			want := slices.Clone(two)
			spoilPoints(one)
			if !slices.Equal(two, want) {
				t.Errorf("two results about %v share memory", l)
			}
		}
		one, two := impl.MustSpeak(roomy, 1), impl.MustSpeak(roomy, 1)
		want := slices.Clone(two)
		spoilInts(one)
		if !slices.Equal(two, want) {
			t.Errorf("two results of MustSpeak of %v share memory", l)
		}
		impl.Won(roomy, 1)
		impl.IsSettled(roomy)
		if !slices.Equal(under, append(slices.Clone(l), spare, spare, spare)) {
			t.Errorf("%v became %v", l, under)
		}
	}
}
