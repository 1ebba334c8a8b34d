package tests

import (
	"math"
	"testing"

	"loop.example/g03009/impl"
)

// hearersOf returns hearers by their opinions before and after, each kind being three times the one and the other.
func hearersOf(kinds ...int) []impl.Hearer {
	l := []impl.Hearer{}
	for _, kind := range kinds {
		l = append(l, impl.Hearer{Before: kind / 3, After: kind % 3})
	}
	return l
}

// sampleHalls are all lists of up to four hearers, and some of up to a hundred.
func sampleHalls() [][]impl.Hearer {
	halls := [][]impl.Hearer{nil}
	allLists([]int{0, 1, 2, 3, 4, 5, 6, 7, 8}, 4, func(kinds []int) { halls = append(halls, hearersOf(kinds...)) })
	next := numbersFrom(18)
	for range 2000 {
		kinds, few := []int{}, 1+next(9)
		for range next(101) {
			kinds = append(kinds, next(few))
		}
		halls = append(halls, hearersOf(kinds...))
	}
	return halls
}

// badHalls are lists that are not valid, for each reason and for two at once.
func badHalls() [][]impl.Hearer {
	halls := [][]impl.Hearer{make([]impl.Hearer, 101), make([]impl.Hearer, 500), hearersOf(speakers(0, 101)...)}
	for _, bad := range []impl.Hearer{
		{Before: 3}, {After: 3}, {Before: -1}, {After: -1}, {Before: 3, After: 3}, {Before: -1, After: -1}, {Before: 1, After: -1}, {Before: -1, After: 2},
		{Before: 1, After: 3}, {Before: 4, After: 2}, {Before: math.MaxInt64}, {Before: math.MinInt64}, {After: math.MaxInt64}, {After: math.MinInt64}, {Before: 1 << 32, After: 1},
	} {
		one := []impl.Hearer{bad}
		halls = append(halls, one, append(hearersOf(1, 1), bad), append(one, hearersOf(1, 2, 8)...), append(make([]impl.Hearer, 99), bad), append(make([]impl.Hearer, 100), bad))
	}
	return halls
}

// opinions are some before or after, those of nobody included.
func opinions() []int {
	return []int{-2, -1, 0, 1, 2, 3, 4, math.MinInt64, math.MaxInt64, 1 << 32}
}

// hearersWith counts anew who is of an opinion before and after.
func hearersWith(l []impl.Hearer, before int, after int) int {
	count := 0
	for i := range l {
		if l[i].Before == before && l[i].After == after {
			count++
		}
	}
	return count
}

// trueHallWinner says anew which side has moved a valid hall.
func trueHallWinner(l []impl.Hearer) int {
	gains, afters := [3]int{}, [3]int{}
	for _, h := range l {
		gains[h.Before]--
		gains[h.After]++
		afters[h.After]++
	}
	switch {
	case gains[1] > gains[2] || gains[1] == gains[2] && afters[1] > afters[2]:
		return 1
	case gains[2] > gains[1] || afters[2] > afters[1]:
		return 2
	}
	return 0
}

// otherSides returns the hall with the sides the other way round.
func otherSides(l []impl.Hearer) []impl.Hearer {
	other := []impl.Hearer{}
	for _, h := range l {
		swap := [3]int{0, 2, 1}
		other = append(other, impl.Hearer{Before: swap[h.Before], After: swap[h.After]})
	}
	return other
}

func TestAreHearers(t *testing.T) {
	for before := -2; before <= 5; before++ {
		for after := -2; after <= 5; after++ {
			want := before >= 0 && before <= 2 && after >= 0 && after <= 2
			if got := impl.AreHearers([]impl.Hearer{{Before: before, After: after}}); got != want {
				t.Errorf("AreHearers of one from %d to %d is %v", before, after, got)
			}
		}
	}
	for count := range 110 {
		if got := impl.AreHearers(make([]impl.Hearer, count)); got != (count <= 100) {
			t.Errorf("AreHearers of %d hearers is %v", count, got)
		}
	}
	for _, l := range sampleHalls() {
		if !impl.AreHearers(l) {
			t.Errorf("%v are no hearers", l)
		}
	}
	for _, l := range badHalls() {
		if impl.AreHearers(l) {
			t.Errorf("%v are hearers", l)
		}
	}
}

func TestSampleHalls(t *testing.T) {
	for _, l := range sampleHalls() {
		unmoved := 0
		for side := -1; side <= 3; side++ {
			gain := 0
			for other := 0; other <= 2; other++ {
				gain += hearersWith(l, other, side) - hearersWith(l, side, other)
			}
			if got := impl.Gain(l, side); got != gain {
				t.Errorf("Gain(%v, %d) is %d, want %d", l, side, got, gain)
			}
			for to := -1; to <= 3; to++ {
				if got, want := impl.Moved(l, side, to), hearersWith(l, side, to); got != want {
					t.Errorf("Moved(%v, %d, %d) is %d, want %d", l, side, to, got, want)
				}
			}
			unmoved += hearersWith(l, side, side)
		}
		if got := impl.Unmoved(l); got != unmoved {
			t.Errorf("Unmoved(%v) is %d, want %d", l, got, unmoved)
		}
		if got, want := impl.HallWinner(l), trueHallWinner(l); got != want {
			t.Errorf("HallWinner(%v) is %d, want %d", l, got, want)
		}
	}
}

func TestNobodyComesOrGoesByBeingMoved(t *testing.T) {
	for _, l := range sampleHalls() {
		all, gains, moved := 0, 0, impl.Unmoved(l)
		for from := range 3 {
			gains += impl.Gain(l, from)
			for to := range 3 {
				all += impl.Moved(l, from, to)
				if from != to {
					moved += impl.Moved(l, from, to)
				}
			}
		}
		if all != len(l) || moved != len(l) || gains != 0 {
			t.Errorf("of %v %d were of an opinion, %d moved or stayed, and the gains are %d together", l, all, moved, gains)
		}
		other, swap := otherSides(l), [3]int{0, 2, 1}
		if impl.HallWinner(other) != swap[impl.HallWinner(l)] || impl.Gain(other, 1) != impl.Gain(l, 2) || impl.Gain(other, 0) != impl.Gain(l, 0) || impl.Unmoved(other) != impl.Unmoved(l) {
			t.Errorf("the sides of %v the other way round change more than that", l)
		}
	}
}

func TestHallsThatNobodyMoves(t *testing.T) {
	next := numbersFrom(8)
	for range 500 {
		kinds, counts := []int{}, [3]int{}
		for range next(101) {
			opinion := next(3)
			kinds = append(kinds, 4*opinion)
			counts[opinion]++
		}
		l := hearersOf(kinds...)
		want := 0
		if counts[1] > counts[2] {
			want = 1
		} else if counts[2] > counts[1] {
			want = 2
		}
		if impl.Gain(l, 0) != 0 || impl.Gain(l, 1) != 0 || impl.Gain(l, 2) != 0 || impl.Unmoved(l) != len(l) || impl.HallWinner(l) != want {
			t.Errorf("nobody of %v moves, but HallWinner is %d, want %d", l, impl.HallWinner(l), want)
		}
	}
	for _, none := range [][]impl.Hearer{nil, {}} {
		if !impl.AreHearers(none) || impl.HallWinner(none) != 0 || impl.Unmoved(none) != 0 || impl.Gain(none, 1) != 0 || impl.Moved(none, 0, 0) != 0 {
			t.Errorf("an empty hall has hearers")
		}
	}
}

func TestHallWinner(t *testing.T) {
	for _, c := range []struct {
		kinds        []int
		gain1, gain2 int
		want         int
	}{
		// the greater gain wins against many more hearers
		{[]int{4, 4, 4, 4, 2}, 0, 1, 2},
		{[]int{8, 8, 8, 8, 1}, 1, 0, 1},
		// from the other side, to neither, and from it
		{[]int{5}, -1, 1, 2},
		{[]int{7}, 1, -1, 1},
		{[]int{3}, -1, 0, 2},
		{[]int{6}, 0, -1, 1},
		{[]int{3, 3, 6, 8}, -2, -1, 2},
		// the same gains: those after decide, not those before or those of neither side
		{[]int{5, 7}, 0, 0, 0},
		{[]int{5, 7, 4}, 0, 0, 1},
		{[]int{5, 7, 8}, 0, 0, 2},
		{[]int{1, 2}, 1, 1, 0},
		{[]int{3, 6}, -1, -1, 0},
		{[]int{3, 6, 4, 8, 8}, -1, -1, 2},
		{[]int{1, 2, 4, 8, 4, 0, 0, 0}, 1, 1, 1},
		{[]int{0, 0, 0}, 0, 0, 0},
	} {
		l := hearersOf(c.kinds...)
		if impl.Gain(l, 1) != c.gain1 || impl.Gain(l, 2) != c.gain2 || impl.HallWinner(l) != c.want {
			t.Errorf("the gains of %v are %d and %d, and HallWinner is %d, want %v", l, impl.Gain(l, 1), impl.Gain(l, 2), impl.HallWinner(l), c)
		}
	}
}

func TestHallsThatAreNotValid(t *testing.T) {
	for _, l := range badHalls() {
		if impl.HallWinner(l) != 0 {
			t.Errorf("HallWinner(%v) is %d", l, impl.HallWinner(l))
		}
		unmoved := 0
		for _, h := range l {
			if h.Before == h.After {
				unmoved++
			}
		}
		if impl.Unmoved(l) != unmoved {
			t.Errorf("Unmoved(%v) is %d, want %d", l, impl.Unmoved(l), unmoved)
		}
		for _, from := range opinions() {
			after, before := 0, 0
			for _, h := range l {
				if h.After == from {
					after++
				}
				if h.Before == from {
					before++
				}
			}
			if impl.Gain(l, from) != after-before {
				t.Errorf("Gain(%v, %d) is %d, want %d", l, from, impl.Gain(l, from), after-before)
			}
			for _, to := range opinions() {
				if got, want := impl.Moved(l, from, to), hearersWith(l, from, to); got != want {
					t.Errorf("Moved(%v, %d, %d) is %d, want %d", l, from, to, got, want)
				}
			}
		}
	}
}

func TestHallFunctionsLeaveTheirArgumentsAlone(t *testing.T) {
	for _, l := range append(sampleHalls(), badHalls()...) {
		roomy, isSame := withSpare(l, impl.Hearer{Before: -9, After: -9})
		impl.AreHearers(roomy)
		impl.Moved(roomy, 1, 2)
		impl.Gain(roomy, 1)
		impl.HallWinner(roomy)
		impl.Unmoved(roomy)
		if !isSame() {
			t.Errorf("%v is changed", l)
		}
	}
}
