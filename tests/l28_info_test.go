package tests

import (
	"math"
	"slices"
	"testing"

	"loop.example/g03009/impl"
)

// offersAt returns offers at these seconds, by 11, 12 and so on, none of which is taken.
func offersAt(ats ...int) []impl.Offer {
	l := []impl.Offer{}
	for i, at := range ats {
		l = append(l, impl.Offer{At: at, Who: 11 + i})
	}
	return l
}

// takenAt returns a copy in which the offers at these places are taken.
func takenAt(l []impl.Offer, places ...int) []impl.Offer {
	l = slices.Clone(l)
	for _, place := range places {
		l[place].Taken = true
	}
	return l
}

// trueOffer says anew whether one offer alone can be made.
func trueOffer(s impl.Slot, x impl.Offer) bool {
	return impl.IsSlot(s) && x.At >= 60 && x.At+60 <= s.Limit && x.At < math.MaxInt64-60 && x.Who >= 1 && x.Who <= 99 && x.Who != s.Who
}

// trueOffers says anew whether offers are valid.
func trueOffers(s impl.Slot, l []impl.Offer) bool {
	taken := 0
	for i, x := range l {
		if !trueOffer(s, x) || i > 0 && x.At <= l[i-1].At {
			return false
		}
		if x.Taken {
			taken++
		}
	}
	return impl.IsSlot(s) && taken <= 2 && len(l) <= 20
}

// question is a slot with offers.
type question struct {
	s impl.Slot
	l []impl.Offer
}

// sampleQuestions are valid offers in slots of many lengths.
func sampleQuestions() []question {
	full := offersAt(speakers(100, 20)...)
	samples := []question{
		{impl.Slot{Who: 1, Limit: 300}, full},
		{impl.Slot{Who: 1, Limit: 300, Used: 315}, takenAt(full, 0, 19)},
		{impl.Slot{Who: 1, Limit: 300}, takenAt(full, 5)},
		{impl.Slot{Who: 1, Limit: 1000, Used: 7}, offersAt(60, 940)},
		{impl.Slot{Who: 99, Limit: 120}, takenAt(offersAt(60), 0)},
		{impl.Slot{Who: 1, Limit: 121}, takenAt(offersAt(60, 61), 0, 1)},
		{impl.Slot{Who: 50, Limit: 200}, []impl.Offer{{At: 60, Who: 1}, {At: 100, Who: 99, Taken: true}, {At: 101, Who: 1, Taken: true}, {At: 140, Who: 99}}},
	}
	for _, s := range sampleSlots() {
		samples = append(samples, question{s, nil})
	}
	next := numbersFrom(28)
	for range 400 {
		s := impl.Slot{Who: 1 + next(5), Limit: 120 + next(881)}
		s.Used = next(s.Limit + 16)
		l, at, taken := []impl.Offer{}, 59, next(3)
		for range next(21) {
			at += 1 + next(1+s.Limit/15)
			if at > s.Limit-60 {
				break
			}
			x := impl.Offer{At: at, Who: 6 + next(6), Taken: taken > 0 && next(2) == 0}
			if x.Taken {
				taken--
			}
			l = append(l, x)
		}
		samples = append(samples, question{s, l})
	}
	return samples
}

// badQuestions are offers that are not valid, for each reason and for two at once.
func badQuestions() []question {
	s := impl.Slot{Who: 5, Limit: 300}
	fine := takenAt(offersAt(60, 100, 150, 240), 1)
	bad := []question{
		{s, offersAt(speakers(100, 21)...)},
		{s, offersAt(speakers(100, 50)...)},
		{s, takenAt(fine, 0, 1, 2)},
		{s, takenAt(fine, 0, 1, 2, 3)},
		{s, takenAt(fine, 0, 3)},
		{s, takenAt(offersAt(speakers(100, 21)...), 0, 1, 2)},
		{s, make([]impl.Offer, 1)},
		{impl.Slot{Who: 5, Limit: 119}, offersAt(60)},
		{impl.Slot{Who: 5, Limit: 119}, offersAt(59)},
		{impl.Slot{Who: 5, Limit: 60}, offersAt(0)},
		{impl.Slot{Who: 5, Limit: 1}, offersAt(1)},
	}
	for _, slot := range badSlots() {
		bad = append(bad, question{slot, nil}, question{slot, fine}, question{slot, offersAt(60, 60)})
	}
	for place := range fine {
		for _, spoil := range []func(x *impl.Offer){
			func(x *impl.Offer) { x.At = 59 },
			func(x *impl.Offer) { x.At = 241 },
			func(x *impl.Offer) { x.At = 0 },
			func(x *impl.Offer) { x.At = -100 },
			func(x *impl.Offer) { x.At = 300 },
			func(x *impl.Offer) { x.At = math.MaxInt64 },
			func(x *impl.Offer) { x.At = math.MinInt64 },
			func(x *impl.Offer) { x.At = fine[(place+1)%4].At },
			func(x *impl.Offer) { x.At = fine[(place+3)%4].At },
			func(x *impl.Offer) { x.Who = 0 },
			func(x *impl.Offer) { x.Who = -1 },
			func(x *impl.Offer) { x.Who = 100 },
			func(x *impl.Offer) { x.Who = math.MaxInt64 },
			func(x *impl.Offer) { x.Who = math.MinInt64 },
			func(x *impl.Offer) { x.Who = s.Who },
			func(x *impl.Offer) { x.Who = 0; x.At = 59 },
			func(x *impl.Offer) { x.Who = s.Who; x.At = 241 },
		} {
			l := slices.Clone(fine)
			spoil(&l[place])
			bad = append(bad, question{s, l})
		}
	}
	swapped := slices.Clone(fine)
	swapped[1], swapped[2] = swapped[2], swapped[1]
	return append(bad, question{s, swapped})
}

// someOffers are all lists of up to four offers by three with a second of few.
func someOffers(check func(l []impl.Offer)) {
	allLists(speakers(0, 12), 4, func(kinds []int) {
		l := []impl.Offer{}
		for _, kind := range kinds {
			l = append(l, impl.Offer{At: 100 + kind/6, Who: 7 + kind%3, Taken: kind/3%2 == 1})
		}
		check(l)
	})
}

func TestQuestionLimit(t *testing.T) {
	if impl.MaxTaken != 2 {
		t.Errorf("MaxTaken is %d", impl.MaxTaken)
	}
}

func TestNobodyAsksInTheFirstOrInTheLastMinute(t *testing.T) {
	for limit := 1; limit <= 1000; limit++ {
		s := impl.Slot{Who: 7, Limit: limit, Used: limit / 2}
		for _, at := range []int{math.MinInt64, -60, -1, 0, 1, 59, 60, 61, limit / 2, limit - 61, limit - 60, limit - 59, limit - 1, limit, limit + 1, limit + 15, limit + 60, math.MaxInt64 - 60, math.MaxInt64} {
			want := at >= 60 && at <= limit-60
			if got := impl.MayOffer(s, at); got != want {
				t.Errorf("MayOffer(%v, %d) is %v", s, at, got)
			}
			x := impl.Offer{At: at, Who: 8}
			if got, ok := impl.MakeOffer(s, nil, x); ok != want || len(got) == 1 != want {
				t.Errorf("MakeOffer(%v, nil, %v) is %v, %v", s, x, got, ok)
			}
			if got := impl.AreOffers(s, []impl.Offer{x}); got != want {
				t.Errorf("AreOffers(%v, %v) is %v", s, x, got)
			}
		}
	}
	for _, limit := range []int{119, 120, 121, 122, 180} {
		for at := range limit + 20 {
			if got := impl.MayOffer(impl.Slot{Who: 1, Limit: limit, Used: limit + 15}, at); got != (at >= 60 && limit-at >= 60) {
				t.Errorf("with the limit %d MayOffer at %d is %v", limit, at, got)
			}
		}
	}
	for _, s := range badSlots() {
		for _, at := range []int{0, 59, 60, 61, 100, 150, 240, 241, 300} {
			if impl.MayOffer(s, at) {
				t.Errorf("MayOffer(%v, %d) is true", s, at)
			}
		}
	}
}

func TestAreOffers(t *testing.T) {
	for _, q := range sampleQuestions() {
		if !impl.AreOffers(q.s, q.l) || !trueOffers(q.s, q.l) {
			t.Errorf("%v are no offers in %v", q.l, q.s)
		}
	}
	for _, q := range badQuestions() {
		if impl.AreOffers(q.s, q.l) || trueOffers(q.s, q.l) {
			t.Errorf("%v are offers in %v", q.l, q.s)
		}
	}
	s := impl.Slot{Who: 7, Limit: 300}
	for count := range 25 {
		if got := impl.AreOffers(s, offersAt(speakers(100, count)...)); got != (count <= 20) {
			t.Errorf("AreOffers of %d offers is %v", count, got)
		}
		if got := impl.AreOffers(s, takenAt(offersAt(speakers(100, 20)...), speakers(0, count%21)...)); got != (count%21 <= 2) {
			t.Errorf("AreOffers of %d taken ones is %v", count%21, got)
		}
	}
	for who := -3; who <= 103; who++ {
		if got := impl.AreOffers(s, []impl.Offer{{At: 100, Who: who}}); got != (who >= 1 && who <= 99 && who != 7) {
			t.Errorf("AreOffers of one by %d is %v", who, got)
		}
	}
	someOffers(func(l []impl.Offer) {
		if got := impl.AreOffers(s, l); got != trueOffers(s, l) {
			t.Errorf("AreOffers(%v, %v) is %v", s, l, got)
		}
	})
}

func TestMakeOffer(t *testing.T) {
	for _, q := range append(sampleQuestions(), badQuestions()...) {
		for _, at := range []int{59, 60, 61, 100, 101, 120, 150, 151, 240, 241, 940, 941} {
			for _, x := range []impl.Offer{{At: at, Who: 12}, {At: at, Who: 12, Taken: true}, {At: at, Who: q.s.Who}, {At: at, Who: 0}, {At: at, Who: 1}, {At: at, Who: 99, Taken: true}, {At: at, Who: 100}} {
				want := append(slices.Clone(q.l), x)
				fine := trueOffers(q.s, want)
				if !fine {
					want = q.l
				}
				if got, ok := impl.MakeOffer(q.s, q.l, x); ok != fine || !slices.Equal(got, want) {
					t.Errorf("MakeOffer(%v, %v, %v) is %v, %v, want %v, %v", q.s, q.l, x, got, ok, want, fine)
				}
			}
		}
	}
}

func TestQuestionsInTheLastMinute(t *testing.T) {
	s := impl.Slot{Who: 7, Limit: 300}
	l := offersAt(60, 239)
	for at := 238; at <= 320; at++ {
		made, ok := impl.MakeOffer(s, l, impl.Offer{At: at, Who: 40, Taken: true})
		if want := at == 240; ok != want || impl.TakenFrom(made, 40) == 1 != want {
			t.Errorf("at %d MakeOffer is %v, %v", at, made, ok)
		}
	}
	for at := -1; at <= 62; at++ {
		made, ok := impl.MakeOffer(s, nil, impl.Offer{At: at, Who: 40})
		if want := at >= 60; ok != want || len(made) == 1 != want {
			t.Errorf("at %d MakeOffer is %v, %v", at, made, ok)
		}
	}
}

func TestTakenAndRefused(t *testing.T) {
	check := func(l []impl.Offer) {
		taken, all := map[int]int{}, []int{}
		for _, x := range l {
			all = append(all, x.Who)
			if x.Taken {
				taken[x.Who]++
			}
		}
		for _, who := range append(all, math.MinInt64, -1, 0, 7, 8, 9, 50, 100, math.MaxInt64) {
			if got := impl.TakenFrom(l, who); got != taken[who] {
				t.Errorf("TakenFrom(%v, %d) is %d, want %d", l, who, got, taken[who])
			}
		}
		slices.Sort(all)
		want := []int{}
		for i, who := range all {
			if taken[who] == 0 && (i == 0 || all[i-1] != who) {
				want = append(want, who)
			}
		}
		if got := impl.RefusedOf(l); !slices.Equal(got, want) {
			t.Errorf("RefusedOf(%v) is %v, want %v", l, got, want)
		}
	}
	someOffers(check)
	for _, q := range append(sampleQuestions(), badQuestions()...) {
		check(q.l)
	}
	// the chapter names no fallback: offers of any kind count
	l := []impl.Offer{{Who: 3, Taken: true}, {Who: -4}, {Who: 200, At: -5}, {Who: 3}, {Who: -4}, {Who: 3, Taken: true}, {Who: 3, Taken: true}, {Who: 0}}
	check(l)
	check(nil)
	if impl.TakenFrom(l, 3) != 3 || !slices.Equal(impl.RefusedOf(l), []int{-4, 0, 200}) {
		t.Errorf("of %v are %d taken from 3, and %v are refused", l, impl.TakenFrom(l, 3), impl.RefusedOf(l))
	}
}

func TestOfferFunctionsShareNoMemory(t *testing.T) {
	spare, spoilt := impl.Offer{At: -9, Who: -9, Taken: true}, impl.Offer{At: -6, Who: -6}
	for _, q := range append(sampleQuestions(), badQuestions()...) {
		roomy, isSame := withSpare(q.l, spare)
		for _, x := range []impl.Offer{{At: q.s.Limit - 60, Who: 50}, {At: 60, Who: 50}, {}} {
			expectFresh(t, spoilt, func() []impl.Offer { made, _ := impl.MakeOffer(q.s, roomy, x); return made })
		}
		expectFresh(t, -6, func() []int { return impl.RefusedOf(roomy) })
		impl.AreOffers(q.s, roomy)
		impl.TakenFrom(roomy, 12)
		if !isSame() {
			t.Errorf("%v became %v", q.l, roomy)
		}
	}
}
