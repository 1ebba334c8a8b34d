package tests

import (
	"math"
	"slices"
	"testing"

	"loop.example/g03009/impl"
)

// roomsOf returns rooms with the Ids 4, 8, 12 and so on and so many seats.
func roomsOf(seats ...int) []impl.Room {
	l := []impl.Room{}
	for i, n := range seats {
		l = append(l, impl.Room{Id: 4*i + 4, Seats: n})
	}
	return l
}

// badRooms are lists that are not valid, for each reason and for two at once.
func badRooms() [][]impl.Room {
	lists := [][]impl.Room{make([]impl.Room, 1), make([]impl.Room, 21), roomsOf(speakers(1, 21)...), roomsOf(speakers(1, 24)...), roomsOf(speakers(1, 50)...)}
	for place := range 3 {
		for _, bad := range []impl.Room{
			{Id: 0, Seats: 5}, {Id: -1, Seats: 5}, {Id: 100, Seats: 5}, {Id: math.MaxInt64, Seats: 5}, {Id: math.MinInt64, Seats: 5},
			{Id: 4 + 4*((place+1)%3), Seats: 5}, {Id: 4 + 4*((place+2)%3), Seats: 5},
			{Id: 4 + 4*place, Seats: 0}, {Id: 4 + 4*place, Seats: -1}, {Id: 4 + 4*place, Seats: 1001}, {Id: 4 + 4*place, Seats: math.MaxInt64}, {Id: 4 + 4*place, Seats: math.MinInt64},
			{}, {Id: 100, Seats: 1001},
		} {
			l := roomsOf(30, 50, 40)
			l[place] = bad
			lists = append(lists, l)
		}
	}
	return lists
}

// sampleRooms are lists of up to twenty rooms, of which many are of the same size.
func sampleRooms() [][]impl.Room {
	lists := [][]impl.Room{nil, {}, roomsOf(1), roomsOf(1000), roomsOf(slices.Repeat([]int{7}, 20)...), roomsOf(speakers(981, 20)...)}
	allLists([]int{1, 2, 3, 1000}, 5, func(seats []int) { lists = append(lists, roomsOf(seats...)) })
	next := numbersFrom(22)
	for range 500 {
		seats, few := []int{}, 1+next(30)
		for range next(21) {
			seats = append(seats, 1+10*next(few))
		}
		lists = append(lists, roomsOf(seats...))
	}
	return lists
}

// someHearers returns how many want to hear each one of up to so many debates.
func someHearers(most int, next func(n int) int) []int {
	hearers, few := []int{}, 1+next(100)
	for range next(most + 1) {
		hearers = append(hearers, next(few)*next(4))
	}
	return hearers
}

// trueRooms says anew whether rooms are valid.
func trueRooms(l []impl.Room) bool {
	for i, room := range l {
		if room.Id < 1 || room.Id > 99 || room.Seats < 1 || room.Seats > 1000 || i > 0 && room.Id <= l[i-1].Id {
			return false
		}
	}
	return len(l) <= 20
}

// trueAssignment gives the rooms anew: it looks for the next debate and for the next room each time.
func trueAssignment(l []impl.Room, hearers []int) []int {
	ids, isTaken := make([]int, len(hearers)), make([]bool, len(l))
	for range hearers {
		debate := -1
		for i, count := range hearers {
			if ids[i] == 0 && (debate < 0 || count > hearers[debate]) {
				debate = i
			}
		}
		place := -1
		for i, room := range l {
			if !isTaken[i] && (place < 0 || room.Seats > l[place].Seats) {
				place = i
			}
		}
		ids[debate], isTaken[place] = l[place].Id, true
	}
	return ids
}

// trueAway counts anew who is turned away.
func trueAway(l []impl.Room, hearers []int, ids []int) int {
	if !trueRooms(l) || len(ids) != len(hearers) {
		return -1
	}
	away := 0
	for i, id := range ids {
		place := slices.IndexFunc(l, func(room impl.Room) bool { return room.Id == id })
		if place < 0 || hearers[i] < 0 || hearers[i] > 10000 {
			return -1
		}
		if hearers[i] > l[place].Seats {
			away += hearers[i] - l[place].Seats
		}
	}
	return away
}

func TestAreRooms(t *testing.T) {
	for _, l := range sampleRooms() {
		if !impl.AreRooms(l) || !trueRooms(l) {
			t.Errorf("%v are no rooms", l)
		}
	}
	for _, l := range badRooms() {
		if impl.AreRooms(l) || trueRooms(l) {
			t.Errorf("%v are rooms", l)
		}
	}
	for count := range 24 {
		if got := impl.AreRooms(roomsOf(speakers(1, count)...)); got != (count <= 20) {
			t.Errorf("AreRooms of %d rooms is %v", count, got)
		}
	}
	for n := -2; n <= 1003; n++ {
		if got := impl.AreRooms([]impl.Room{{Id: 9, Seats: n}}); got != (n >= 1 && n <= 1000) {
			t.Errorf("AreRooms of %d seats is %v", n, got)
		}
		if got := impl.AreRooms([]impl.Room{{Id: n, Seats: 9}}); got != (n >= 1 && n <= 99) {
			t.Errorf("AreRooms of the Id %d is %v", n, got)
		}
	}
}

func TestSampleRooms(t *testing.T) {
	next := numbersFrom(222)
	for _, l := range append(sampleRooms(), badRooms()...) {
		seats, largest := 0, impl.Room{}
		if trueRooms(l) {
			for _, room := range l {
				seats += room.Seats
				if room.Seats > largest.Seats {
					largest = room
				}
			}
		}
		if impl.SeatsIn(l) != seats || impl.LargestRoom(l) != largest.Id {
			t.Errorf("SeatsIn(%v) is %d, want %d, and LargestRoom %d, want %d", l, impl.SeatsIn(l), seats, impl.LargestRoom(l), largest.Id)
		}
		for range 10 {
			hearers := someHearers(len(l)+1, next)
			want, fine := []int{}, trueRooms(l) && len(hearers) <= len(l)
			if fine {
				want = trueAssignment(l, hearers)
			}
			got, ok := impl.AssignRooms(l, hearers)
			if ok != fine || !slices.Equal(got, want) {
				t.Errorf("AssignRooms(%v, %v) is %v, %v, want %v, %v", l, hearers, got, ok, want, fine)
			}
			if away := impl.TurnedAway(l, hearers, got); away != trueAway(l, hearers, got) {
				t.Errorf("TurnedAway(%v, %v, %v) is %d, want %d", l, hearers, got, away, trueAway(l, hearers, got))
			}
		}
	}
}

func TestTheMostWantedDebateHasTheLargestRoom(t *testing.T) {
	next := numbersFrom(202)
	for _, l := range sampleRooms() {
		for range 5 {
			hearers := someHearers(len(l), next)
			ids, ok := impl.AssignRooms(l, hearers)
			if !ok {
				t.Fatalf("AssignRooms(%v, %v) is false", l, hearers)
			}
			if len(hearers) > 0 && ids[slices.Index(hearers, slices.Max(hearers))] != impl.LargestRoom(l) {
				t.Errorf("AssignRooms(%v, %v) is %v, but the largest room is %d", l, hearers, ids, impl.LargestRoom(l))
			}
			seatsOf := map[int]int{}
			for _, room := range l {
				seatsOf[room.Id] = room.Seats
			}
			for i, id := range ids {
				if slices.Contains(ids[:i], id) {
					t.Errorf("AssignRooms(%v, %v) is %v", l, hearers, ids)
				}
				for j, other := range ids {
					if hearers[i] > hearers[j] && seatsOf[id] < seatsOf[other] {
						t.Errorf("AssignRooms(%v, %v) is %v", l, hearers, ids)
					}
				}
			}
		}
	}
}

func TestAssignRooms(t *testing.T) {
	for _, c := range []struct {
		seats   []int
		hearers []int
		want    []int
		ok      bool
	}{
		{nil, nil, nil, true},
		{[]int{5}, nil, nil, true},
		{[]int{5}, []int{0}, []int{4}, true},
		{[]int{5, 6}, []int{0}, []int{8}, true},
		{[]int{5, 6}, []int{0, 0}, []int{8, 4}, true},
		{[]int{5, 6}, []int{1, 2}, []int{4, 8}, true},
		{[]int{5, 6, 7}, []int{math.MaxInt64, 10001}, []int{12, 8}, true},
		// rooms of the same size, and debates that are wanted as much
		{[]int{5, 5, 5}, []int{1, 1, 1}, []int{4, 8, 12}, true},
		{[]int{5, 5, 5}, []int{1, 2, 3}, []int{12, 8, 4}, true},
		{[]int{5, 5, 5}, []int{2, 3, 2}, []int{8, 4, 12}, true},
		{[]int{5, 9, 5, 9}, []int{7, 7, 7, 7}, []int{8, 16, 4, 12}, true},
		{[]int{5, 9, 5, 9}, []int{0, 7, 7}, []int{4, 8, 16}, true},
		{slices.Repeat([]int{7}, 20), slices.Repeat([]int{1}, 20), []int{4, 8, 12, 16, 20, 24, 28, 32, 36, 40, 44, 48, 52, 56, 60, 64, 68, 72, 76, 80}, true},
		// more debates than rooms
		{nil, []int{0}, nil, false},
		{[]int{5}, []int{1, 1}, nil, false},
		{[]int{5, 5}, make([]int, 1000), nil, false},
		{slices.Repeat([]int{7}, 20), make([]int, 21), nil, false},
		// a number that is negative
		{[]int{5}, []int{-1}, nil, false},
		{[]int{5, 6}, []int{3, -1}, nil, false},
		{[]int{5, 6, 7}, []int{3, math.MinInt64, 2}, nil, false},
		// both
		{[]int{5}, []int{-1, 2}, nil, false},
		{nil, []int{-1}, nil, false},
	} {
		l := roomsOf(c.seats...)
		got, ok := impl.AssignRooms(l, c.hearers)
		if ok != c.ok || !slices.Equal(got, c.want) {
			t.Errorf("AssignRooms(%v, %v) is %v, %v, want %v, %v", l, c.hearers, got, ok, c.want, c.ok)
		}
	}
	for _, l := range badRooms() {
		for _, hearers := range [][]int{nil, {5}, {-1}, make([]int, 60)} {
			if got, ok := impl.AssignRooms(l, hearers); ok || len(got) != 0 {
				t.Errorf("AssignRooms(%v, %v) is %v", l, hearers, got)
			}
		}
	}
}

func TestTurnedAway(t *testing.T) {
	l := roomsOf(30, 50, 1000)
	for _, c := range []struct {
		hearers []int
		ids     []int
		want    int
	}{
		{nil, nil, 0},
		{[]int{30}, []int{4}, 0},
		{[]int{31}, []int{4}, 1},
		{[]int{29}, []int{4}, 0},
		{[]int{0}, []int{4}, 0},
		{[]int{10000}, []int{4}, 9970},
		// who is turned away from one is not heard by another one
		{[]int{40, 10}, []int{4, 8}, 10},
		{[]int{40, 60, 900}, []int{4, 8, 12}, 20},
		{[]int{40, 60}, []int{8, 4}, 30},
		// a room that is there twice
		{[]int{40, 40, 40}, []int{4, 4, 4}, 30},
		{[]int{20, 20}, []int{4, 4}, 0},
		{slices.Repeat([]int{10000}, 500), slices.Repeat([]int{8}, 500), 500 * 9950},
		// not as many ids as debates
		{[]int{40}, nil, -1},
		{nil, []int{4}, -1},
		{[]int{40}, []int{4, 8}, -1},
		{[]int{40, 40}, []int{4}, -1},
		// no room
		{[]int{40}, []int{5}, -1},
		{[]int{40}, []int{0}, -1},
		{[]int{40, 40}, []int{4, 100}, -1},
		{[]int{0}, []int{math.MinInt64}, -1},
		// no number of hearers
		{[]int{-1}, []int{4}, -1},
		{[]int{10001}, []int{4}, -1},
		{[]int{10001}, []int{12}, -1},
		{[]int{5, 10001}, []int{4, 4}, -1},
		{[]int{-1, 31}, []int{4, 4}, -1},
		{[]int{math.MaxInt64, 1}, []int{4, 8}, -1},
		{[]int{math.MinInt64}, []int{4}, -1},
		// two reasons
		{[]int{-1}, []int{5}, -1},
		{[]int{-1, 2}, []int{4}, -1},
		{[]int{5}, []int{5, 6}, -1},
	} {
		if got := impl.TurnedAway(l, c.hearers, c.ids); got != c.want || trueAway(l, c.hearers, c.ids) != c.want {
			t.Errorf("TurnedAway(%v, %v, %v) is %d, want %d", l, c.hearers, c.ids, got, c.want)
		}
		for _, bad := range badRooms() {
			if got := impl.TurnedAway(bad, c.hearers, c.ids); got != -1 {
				t.Errorf("TurnedAway(%v, %v, %v) is %d", bad, c.hearers, c.ids, got)
			}
		}
		if got := impl.TurnedAway(nil, c.hearers, c.ids); got != trueAway(nil, c.hearers, c.ids) {
			t.Errorf("TurnedAway(nil, %v, %v) is %d", c.hearers, c.ids, got)
		}
	}
}

func TestRoomFunctionsShareNoMemory(t *testing.T) {
	next := numbersFrom(2222)
	for _, rooms := range append(sampleRooms(), badRooms()...) {
		l, isSameRooms := withSpare(rooms, impl.Room{Id: -9, Seats: -9})
		hearers, isSameHearers := withSpare(someHearers(len(rooms), next), -9)
		expectFreshInts(t, func() []int { ids, _ := impl.AssignRooms(l, hearers); return ids })
		given, _ := impl.AssignRooms(l, hearers)
		ids, isSameIds := withSpare(given, -9)
		impl.TurnedAway(l, hearers, ids)
		impl.AreRooms(l)
		impl.SeatsIn(l)
		impl.LargestRoom(l)
		if !isSameRooms() || !isSameHearers() || !isSameIds() {
			t.Errorf("%v, %v or %v is changed", rooms, hearers, ids)
		}
	}
}
