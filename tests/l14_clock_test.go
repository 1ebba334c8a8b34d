package tests

import (
	"math"
	"slices"
	"testing"

	"loop.example/g03009/impl"
)

// sampleSlots are valid slots with limits from one second to the greatest one, at all seconds that matter.
func sampleSlots() []impl.Slot {
	l := []impl.Slot{}
	for _, limit := range []int{1, 2, 15, 16, 59, 60, 61, 119, 120, 121, 122, 300, 999, 1000} {
		for _, used := range []int{0, 1, 2, 59, 60, limit / 2, limit - 1, limit, limit + 1, limit + 14, limit + 15} {
			if used <= limit+15 {
				l = append(l, impl.Slot{Who: 1 + limit%99, Limit: limit, Used: used})
			}
		}
	}
	return append(l, impl.Slot{Who: 1, Limit: 300, Used: 100}, impl.Slot{Who: 99, Limit: 300, Used: 100})
}

// badSlots are slots that are not valid, for each reason and for two at once.
func badSlots() []impl.Slot {
	return []impl.Slot{
		{},
		{Who: 0, Limit: 300, Used: 100},
		{Who: -1, Limit: 300, Used: 100},
		{Who: 100, Limit: 300, Used: 100},
		{Who: math.MaxInt64, Limit: 300, Used: 100},
		{Who: math.MinInt64, Limit: 300, Used: 100},
		{Who: 1, Limit: 0},
		{Who: 1, Limit: 0, Used: 10},
		{Who: 1, Limit: -1},
		{Who: 1, Limit: -1, Used: 5},
		{Who: 1, Limit: 1001},
		{Who: 1, Limit: 1001, Used: 1000},
		{Who: 1, Limit: math.MaxInt64, Used: 5},
		{Who: 1, Limit: math.MaxInt64, Used: math.MinInt64 + 5},
		{Who: 1, Limit: math.MinInt64, Used: math.MinInt64},
		{Who: 1, Limit: 300, Used: -1},
		{Who: 1, Limit: 300, Used: 316},
		{Who: 1, Limit: 1, Used: 17},
		{Who: 1, Limit: 1000, Used: 1016},
		{Who: 1, Limit: 300, Used: math.MaxInt64},
		{Who: 1, Limit: 300, Used: math.MinInt64},
		{Who: 0, Limit: 0},
		{Who: 100, Limit: 300, Used: 316},
		{Who: 1, Limit: 1001, Used: -1},
		{Who: 100, Limit: 0, Used: 400},
	}
}

func TestIsSlot(t *testing.T) {
	for _, s := range sampleSlots() {
		if !impl.IsSlot(s) {
			t.Errorf("%v is no slot", s)
		}
	}
	for _, s := range badSlots() {
		if impl.IsSlot(s) {
			t.Errorf("%v is a slot", s)
		}
	}
	for _, who := range []int{-1, 0, 1, 2, 98, 99, 100, 101} {
		for _, limit := range []int{-1, 0, 1, 2, 500, 999, 1000, 1001, 1015, 1016} {
			for _, used := range []int{-2, -1, 0, 1, limit - 1, limit, limit + 14, limit + 15, limit + 16, limit + 17} {
				s := impl.Slot{Who: who, Limit: limit, Used: used}
				want := who >= 1 && who <= 99 && limit >= 1 && limit <= 1000 && used >= 0 && used <= limit+15
				if got := impl.IsSlot(s); got != want {
					t.Errorf("IsSlot(%v) is %v", s, got)
				}
			}
		}
	}
}

func TestNobodySpeaksBeyondTheGrace(t *testing.T) {
	for _, s := range sampleSlots() {
		rest := s.Limit + 15 - s.Used
		for _, n := range []int{0, 1, 2, 14, 15, 16, 59, 60, 100, rest - 1, rest, rest + 1, rest + 15, 1000, 1015, 1016, math.MaxInt64 - 1, math.MaxInt64} {
			if n < 0 {
				continue
			}
			want := min(n, rest)
			got, spoken := impl.Speak(s, n)
			if spoken != want || got != (impl.Slot{Who: s.Who, Limit: s.Limit, Used: s.Used + want}) {
				t.Errorf("Speak(%v, %d) is %v, %d, want %d", s, n, got, spoken, want)
			}
			if got.Used > got.Limit+impl.Grace || !impl.IsSlot(got) {
				t.Errorf("Speak(%v, %d) goes beyond the grace: %v", s, n, got)
			}
		}
		for _, n := range []int{-1, -2, -15, -1000, math.MinInt64, math.MinInt64 + 1} {
			if got, spoken := impl.Speak(s, n); got != s || spoken != 0 {
				t.Errorf("Speak(%v, %d) is %v, %d", s, n, got, spoken)
			}
		}
	}
	for _, s := range badSlots() {
		for _, n := range []int{-1, 0, 1, 5, 60, 1000, math.MaxInt64, math.MinInt64} {
			if got, spoken := impl.Speak(s, n); got != s || spoken != 0 {
				t.Errorf("Speak(%v, %d) is %v, %d", s, n, got, spoken)
			}
		}
	}
}

func TestSpeechesOfOneSecond(t *testing.T) {
	for _, limit := range []int{1, 2, 60, 121, 300, 1000} {
		s, total := impl.Slot{Who: 5, Limit: limit}, 0
		for second := 1; second <= limit+40; second++ {
			said, spoken := impl.Speak(s, 1)
			if heard := second <= limit+15; spoken == 1 != heard || said.Used != s.Used+spoken {
				t.Fatalf("Speak(%v, 1) is %v, %d", s, said, spoken)
			}
			total += spoken
			s = said
			if impl.LeftOf(s) != max(limit-second, 0) || impl.OverBy(s) != min(max(second-limit, 0), 15) || !impl.IsSlot(s) {
				t.Fatalf("after %d seconds of %d are %d left, and over %d", second, limit, impl.LeftOf(s), impl.OverBy(s))
			}
		}
		if total != limit+15 || s.Used != total || impl.TotalUsed([]impl.Slot{s}, 5) != total {
			t.Errorf("of %d seconds %d were spoken: %v", limit, total, s)
		}
		at, spoken := impl.Speak(impl.Slot{Who: 5, Limit: limit}, limit+15)
		if at != s || spoken != total {
			t.Errorf("spoken at once it is %v, %d, and second by second %v", at, spoken, s)
		}
	}
}

func TestASpeechCanBeDivided(t *testing.T) {
	for _, s := range sampleSlots() {
		for _, parts := range [][2]int{{0, 7}, {1, 1}, {3, 14}, {60, 60}, {500, 600}, {2000, 1}} {
			one, a := impl.Speak(s, parts[0])
			two, b := impl.Speak(one, parts[1])
			whole, all := impl.Speak(s, parts[0]+parts[1])
			if two != whole || a+b != all {
				t.Errorf("%v with %v in parts is %v, %d, and at once %v, %d", s, parts, two, a+b, whole, all)
			}
		}
	}
}

func TestLeftAndOver(t *testing.T) {
	for _, limit := range []int{1, 2, 60, 300, 1000} {
		for used := range limit + 16 {
			s := impl.Slot{Who: 1, Limit: limit, Used: used}
			if got := impl.LeftOf(s); got != max(limit-used, 0) {
				t.Errorf("LeftOf(%v) is %d", s, got)
			}
			if got := impl.OverBy(s); got != max(used-limit, 0) {
				t.Errorf("OverBy(%v) is %d", s, got)
			}
		}
	}
	for _, s := range badSlots() {
		if impl.LeftOf(s) != 0 || impl.OverBy(s) != 0 {
			t.Errorf("of %v are %d left, and over %d", s, impl.LeftOf(s), impl.OverBy(s))
		}
	}
}

func TestBellsAt(t *testing.T) {
	for _, c := range []struct {
		limit int
		want  []int
	}{
		{1, []int{1, 16}},
		{59, []int{59, 74}},
		{60, []int{60, 75}},
		{61, []int{61, 76}},
		{119, []int{119, 134}},
		{120, []int{120, 135}},
		{121, []int{60, 61, 121, 136}},
		{122, []int{60, 62, 122, 137}},
		{300, []int{60, 240, 300, 315}},
		{999, []int{60, 939, 999, 1014}},
		{1000, []int{60, 940, 1000, 1015}},
	} {
		for _, used := range []int{0, 1, c.limit, c.limit + 15} {
			s := impl.Slot{Who: 9, Limit: c.limit, Used: used}
			if got := impl.BellsAt(s); !slices.Equal(got, c.want) {
				t.Errorf("BellsAt(%v) is %v, want %v", s, got, c.want)
			}
		}
	}
	for limit := 1; limit <= 1000; limit++ {
		got := impl.BellsAt(impl.Slot{Who: 1, Limit: limit})
		ascending := slices.IsSortedFunc(got, func(a, b int) int {
			if a < b {
				return -1
			}
			return 1
		})
		if !ascending || len(got) != 2 && limit <= 120 || len(got) != 4 && limit > 120 {
			t.Errorf("with the limit %d the bells are %v", limit, got)
		}
	}
	for _, s := range badSlots() {
		if got := impl.BellsAt(s); len(got) != 0 {
			t.Errorf("BellsAt(%v) is %v", s, got)
		}
	}
}

func TestTotalUsed(t *testing.T) {
	for _, c := range []struct {
		l    []impl.Slot
		who  int
		want int
	}{
		{nil, 1, 0},
		{[]impl.Slot{}, 1, 0},
		{[]impl.Slot{{Who: 1, Limit: 100, Used: 40}}, 1, 40},
		{[]impl.Slot{{Who: 1, Limit: 100, Used: 40}}, 2, 0},
		{[]impl.Slot{{Who: 1, Limit: 100, Used: 115}, {Who: 1, Limit: 100, Used: 116}}, 1, 115},
		{[]impl.Slot{{Who: 1, Limit: 100, Used: 40}, {Who: 2, Limit: 100, Used: 1}, {Who: 1, Limit: 100, Used: 40}}, 1, 80},
		{[]impl.Slot{{Who: 1, Limit: 100, Used: -1}, {Who: 1, Limit: 0, Used: 4}, {Who: 1, Limit: 5, Used: 0}}, 1, 0},
		{[]impl.Slot{{Who: 0, Limit: 100, Used: 40}, {Who: 100, Limit: 100, Used: 40}}, 0, 0},
		{[]impl.Slot{{Who: 0, Limit: 100, Used: 40}, {Who: 100, Limit: 100, Used: 40}}, 100, 0},
		{[]impl.Slot{{Who: 99, Limit: 1000, Used: 1015}, {Who: 99, Limit: 1, Used: 16}}, 99, 1031},
	} {
		if got := impl.TotalUsed(c.l, c.who); got != c.want {
			t.Errorf("TotalUsed(%v, %d) is %d, want %d", c.l, c.who, got, c.want)
		}
	}
	l := slices.Concat(sampleSlots(), badSlots(), sampleSlots())
	for _, who := range []int{math.MinInt64, -1, 0, 1, 2, 3, 16, 61, 99, 100, math.MaxInt64} {
		want := 0
		for _, s := range sampleSlots() {
			if s.Who == who {
				want += 2 * s.Used
			}
		}
		if got := impl.TotalUsed(l, who); got != want {
			t.Errorf("TotalUsed of %d is %d, want %d", who, got, want)
		}
	}
}

func TestClockFunctionsShareNoMemory(t *testing.T) {
	for _, s := range append(sampleSlots(), badSlots()...) {
		one, two := impl.BellsAt(s), impl.BellsAt(s)
		want := slices.Clone(two)
		spoilInts(one)
		if !slices.Equal(two, want) || !slices.Equal(impl.BellsAt(s), want) {
			t.Errorf("two results of BellsAt(%v) share memory", s)
		}
	}
	spare := impl.Slot{Who: -9, Limit: -9, Used: -9}
	l := append(sampleSlots(), badSlots()...)
	under := append(slices.Clone(l), spare, spare)
	impl.TotalUsed(under[:len(l)], 1)
	if !slices.Equal(under, append(slices.Clone(l), spare, spare)) {
		t.Errorf("the slots became %v", under)
	}
}
