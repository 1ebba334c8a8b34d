package tests

import (
	"math"
	"slices"
	"testing"

	"loop.example/g03009/impl"
)

// sameAmend reports whether two amendments are the same, an empty list being the same as none.
func sameAmend(a impl.Amend, b impl.Amend) bool {
	return a.At == b.At && a.Drop == b.Drop && slices.Equal(a.Put, b.Put)
}

// trueAmended amends anew, word by word.
func trueAmended(text []int, a impl.Amend) ([]int, bool) {
	if a.At < 0 || a.At > len(text) || a.Drop < 0 || a.Drop > len(text)-a.At {
		return text, false
	}
	amended := []int{}
	for place := range len(text) + 1 {
		if place == a.At {
			amended = append(amended, a.Put...)
		}
		if place < len(text) && (place < a.At || place >= a.At+a.Drop) {
			amended = append(amended, text[place])
		}
	}
	if len(amended) > 60 {
		return text, false
	}
	return amended, true
}

// trueDifference tries all amendments, the greatest At first and then the least Drop.
func trueDifference(a []int, b []int) impl.Amend {
	for at := min(len(a), len(b)); ; at-- {
		if !slices.Equal(a[:at], b[:at]) {
			continue
		}
		for drop := range len(a) - at + 1 {
			end := len(b) - len(a[at+drop:])
			if end >= at && slices.Equal(a[at+drop:], b[end:]) {
				return impl.Amend{At: at, Drop: drop, Put: b[at:end]}
			}
		}
	}
}

// trueClash says anew whether amendments with Ats from 0 to 1000 clash: it looks for a word that both drop.
func trueClash(a impl.Amend, b impl.Amend) bool {
	dropped := map[int]bool{}
	for place := range max(a.Drop, 0) {
		dropped[a.At+place] = true
	}
	for place := range max(b.Drop, 0) {
		if dropped[b.At+place] {
			return true
		}
	}
	return a.At == b.At
}

// smallAmends calls check with all texts of up to four words and all small amendments, also ones that cannot be.
func smallAmends(check func(text []int, a impl.Amend)) {
	allLists([]int{1, 2}, 4, func(text []int) {
		allLists([]int{1, 2}, 2, func(put []int) {
			for at := -1; at <= len(text)+2; at++ {
				for drop := -1; drop <= len(text)+2; drop++ {
					check(text, impl.Amend{At: at, Drop: drop, Put: put})
				}
			}
		})
	})
}

// longAmends calls check with texts around the limit of sixty words and amendments of these.
func longAmends(check func(text []int, a impl.Amend)) {
	for _, count := range []int{0, 1, 30, 58, 59, 60, 61, 62, 100} {
		text := speakers(500, count)
		for _, at := range []int{0, 1, count / 2, count - 1, count, count + 1} {
			for _, drop := range []int{0, 1, 2, count - 60, count - 59, count / 2, count - at - 1, count - at, count - at + 1} {
				for _, put := range []int{0, 1, 2, 60 - count - 1, 60 - count, 60 - count + drop - 1, 60 - count + drop, 60 - count + drop + 1, 61 - count, 60, 61, 90} {
					check(text, impl.Amend{At: at, Drop: drop, Put: speakers(900, max(put, 0))})
				}
			}
		}
	}
}

// strangeAmends are amendments with numbers with which sums wrap around.
func strangeAmends() []impl.Amend {
	l := []impl.Amend{}
	for _, n := range extremes() {
		for _, other := range append(extremes(), 0, 1, -1) {
			l = append(l, impl.Amend{At: n, Drop: other}, impl.Amend{At: other, Drop: n, Put: []int{1}}, impl.Amend{At: n, Drop: -n}, impl.Amend{At: 2, Drop: n})
		}
	}
	return l
}

// expectAmended fails if what an amendment does to a text, or how it is undone, is not so.
func expectAmended(t *testing.T, text []int, a impl.Amend) {
	t.Helper()
	want, fine := trueAmended(text, a)
	if got := impl.MayAmend(text, a); got != fine {
		t.Errorf("MayAmend(%v, %v) is %v", text, a, got)
	}
	if got, ok := impl.Amended(text, a); ok != fine || !slices.Equal(got, want) {
		t.Errorf("Amended(%v, %v) is %v, %v, want %v, %v", text, a, got, ok, want, fine)
	}
	undo := impl.Amend{}
	if fine {
		undo = impl.Amend{At: a.At, Drop: len(a.Put), Put: text[a.At : a.At+a.Drop]}
	}
	if got, ok := impl.Undo(text, a); ok != fine || !sameAmend(got, undo) {
		t.Errorf("Undo(%v, %v) is %v, %v, want %v, %v", text, a, got, ok, undo, fine)
	}
}

// expectUndone fails if an amendment of at most sixty words cannot be undone, or its inverse not be undone again.
func expectUndone(t *testing.T, text []int, a impl.Amend) {
	t.Helper()
	amended, ok := impl.Amended(text, a)
	if !ok || len(text) > 60 {
		return
	}
	undo, can := impl.Undo(text, a)
	back, ok := impl.Amended(amended, undo)
	if !can || !ok || !slices.Equal(back, text) {
		t.Errorf("%v became %v by %v, and %v by %v", text, amended, a, back, undo)
	}
	if redo, can := impl.Undo(amended, undo); !can || !sameAmend(redo, a) {
		t.Errorf("%v undoes %v in %v, and %v undoes that", undo, a, text, redo)
	}
}

func TestAmended(t *testing.T) {
	for _, c := range []struct {
		text []int
		a    impl.Amend
		want []int
	}{
		{nil, impl.Amend{}, nil}, {nil, impl.Amend{Put: []int{4}}, []int{4}}, {[]int{4}, impl.Amend{Drop: 1}, nil}, {[]int{4}, impl.Amend{Drop: 1, Put: []int{5}}, []int{5}}, {[]int{4}, impl.Amend{At: 1, Put: []int{5}}, []int{4, 5}}, {[]int{4}, impl.Amend{Put: []int{5}}, []int{5, 4}},
		{[]int{1, 2, 3, 4, 5}, impl.Amend{At: 1, Drop: 2, Put: []int{9, 8, 7}}, []int{1, 9, 8, 7, 4, 5}}, {[]int{1, 2, 3}, impl.Amend{At: 3}, []int{1, 2, 3}}, {[]int{1, 2, 3}, impl.Amend{At: 1, Drop: 2}, []int{1}}, {[]int{1, 2, 3}, impl.Amend{Drop: 3, Put: []int{3, 2, 1, 0}}, []int{3, 2, 1, 0}},
		{[]int{-1, 0, math.MinInt64}, impl.Amend{At: 1, Put: []int{math.MaxInt64, -1}}, []int{-1, math.MaxInt64, -1, 0, math.MinInt64}},
	} {
		if got, ok := impl.Amended(c.text, c.a); !ok || !slices.Equal(got, c.want) {
			t.Errorf("Amended(%v, %v) is %v, %v, want %v", c.text, c.a, got, ok, c.want)
		}
	}
	smallAmends(func(text []int, a impl.Amend) { expectAmended(t, text, a) })
	longAmends(func(text []int, a impl.Amend) { expectAmended(t, text, a) })
	for _, a := range strangeAmends() {
		for _, text := range [][]int{nil, {1, 2, 3}, speakers(1, 60), speakers(1, 70)} {
			expectAmended(t, text, a)
		}
	}
}

func TestAmendmentsThatCannotBe(t *testing.T) {
	text := []int{1, 2, 3, 4, 5}
	for _, a := range []impl.Amend{
		{At: -1}, {At: 6}, {At: 7, Drop: -1}, {At: math.MaxInt64}, {At: math.MinInt64},
		{At: 3, Drop: 3}, {At: 3, Drop: -1}, {At: 5, Drop: 1}, {Drop: 6}, {Drop: -1}, {At: 1, Drop: math.MaxInt64}, {At: 5, Drop: math.MinInt64},
		{Put: make([]int, 56)}, {At: 5, Put: make([]int, 56)}, {At: 2, Drop: 1, Put: make([]int, 57)}, {Drop: 5, Put: make([]int, 61)},
		{At: -1, Drop: 1}, {At: -1, Drop: 9, Put: make([]int, 61)}, {At: 6, Drop: 1}, {At: 6, Put: make([]int, 60)}, {At: 3, Drop: -2, Put: make([]int, 58)}, {At: -2, Drop: 7},
	} {
		got, ok := impl.Amended(text, a)
		undo, can := impl.Undo(text, a)
		if impl.MayAmend(text, a) || ok || can || !slices.Equal(got, text) || !sameAmend(undo, impl.Amend{}) {
			t.Errorf("Amended(%v, %v) is %v, %v, and Undo %v, %v", text, a, got, ok, undo, can)
		}
	}
	for _, a := range []impl.Amend{{Put: make([]int, 55)}, {At: 5, Put: make([]int, 55)}, {At: 2, Drop: 1, Put: make([]int, 56)}, {Drop: 5, Put: make([]int, 60)}, {At: 5}, {At: 3, Drop: 2}} {
		if !impl.MayAmend(text, a) {
			t.Errorf("MayAmend(%v, %v) is false", text, a)
		}
	}
}

func TestEveryAmendmentCanBeUndone(t *testing.T) {
	smallAmends(func(text []int, a impl.Amend) { expectUndone(t, text, a) })
	longAmends(func(text []int, a impl.Amend) { expectUndone(t, text, a) })
	next := numbersFrom(30)
	for range 400 {
		start, undos := shuffled(next(61), next), []impl.Amend{}
		text := start
		for range next(30) {
			a := impl.Amend{At: next(len(text) + 1), Put: shuffled(next(8), next)}
			a.Drop = next(min(len(text)-a.At, 7) + 1)
			undo, ok := impl.Undo(text, a)
			if amended, can := impl.Amended(text, a); can != ok {
				t.Fatalf("Undo(%v, %v) is %v, but not Amended", text, a, ok)
			} else if ok {
				text, undos = amended, append(undos, undo)
			}
		}
		slices.Reverse(undos)
		if back, count := impl.AmendAll(text, undos); count != len(undos) || !slices.Equal(back, start) {
			t.Errorf("%v is not undone: %d of %d lead from %v to %v", start, count, len(undos), text, back)
		}
	}
}

func TestUndoOfTextsThatAreTooLong(t *testing.T) {
	// the amended text has few enough words, but the text before has not, so that nothing leads back to it
	text := speakers(1, 61)
	a := impl.Amend{At: 60, Drop: 1}
	amended, ok := impl.Amended(text, a)
	undo, can := impl.Undo(text, a)
	if !ok || len(amended) != 60 || !can || !sameAmend(undo, impl.Amend{At: 60, Put: []int{61}}) || impl.MayAmend(amended, undo) {
		t.Errorf("of 61 words are %d left, and %v undoes that", len(amended), undo)
	}
}

func TestAmendmentsThatChangeNothing(t *testing.T) {
	for count := range 64 {
		text := speakers(1, count)
		for at := range count + 1 {
			for _, drop := range []int{0, 1, 5, count - at} {
				if drop > count-at {
					continue
				}
				a := impl.Amend{At: at, Drop: drop, Put: text[at : at+drop]}
				got, ok := impl.Amended(text, a)
				if ok != (count <= 60) || !slices.Equal(got, text) {
					t.Errorf("Amended(%v, %v) is %v, %v", text, a, got, ok)
				}
				if undo, can := impl.Undo(text, a); can != ok || ok && !sameAmend(undo, a) {
					t.Errorf("Undo(%v, %v) is %v, %v", text, a, undo, can)
				}
			}
		}
		if got := impl.Difference(text, slices.Clone(text)); !sameAmend(got, impl.Amend{At: count}) {
			t.Errorf("Difference(%v, %v) is %v", text, text, got)
		}
		if got, done := impl.AmendAll(text, make([]impl.Amend, 3)); done != 3 && count <= 60 || done != 0 && count > 60 || !slices.Equal(got, text) {
			t.Errorf("%d amendments changed nothing of %v: %v", done, text, got)
		}
	}
}

func TestAmendAll(t *testing.T) {
	text := []int{1, 2, 3, 4, 5}
	for _, c := range []struct {
		text  []int
		l     []impl.Amend
		want  []int
		count int
	}{
		{nil, nil, nil, 0}, {text, nil, text, 0}, {text, []impl.Amend{}, text, 0}, {text, []impl.Amend{{}}, text, 1}, {nil, []impl.Amend{{At: 1}, {Put: []int{7}}, {At: 1}}, []int{7}, 2},
		{text, []impl.Amend{{At: 1, Drop: 2, Put: []int{9, 8, 7}}, {At: 6, Put: []int{6}}, {At: 8}, {Drop: 1}}, []int{9, 8, 7, 4, 5, 6}, 3},
		// of the text as it is then
		{text, []impl.Amend{{Drop: 3}, {At: 3}, {At: 2}, {At: 1, Drop: 1}, {At: 1, Drop: 1}, {Drop: 1}, {}}, nil, 5}, {text, []impl.Amend{{Drop: 1}, {Drop: 1}, {Drop: 1}}, []int{4, 5}, 3}, {text, []impl.Amend{{At: 6}, {At: 5, Put: []int{6}}, {At: 6}}, []int{1, 2, 3, 4, 5, 6}, 2},
		{text, []impl.Amend{{At: -1}, {At: 9}, {Drop: 6}, {Put: make([]int, 56)}}, text, 0},
		{text, []impl.Amend{{Put: make([]int, 55)}, {Put: []int{1}}, {Drop: 55}, {Put: []int{0}}}, []int{0, 1, 2, 3, 4, 5}, 3},
	} {
		if got, count := impl.AmendAll(c.text, c.l); count != c.count || !slices.Equal(got, c.want) {
			t.Errorf("AmendAll(%v, %v) is %v, %d, want %v, %d", c.text, c.l, got, count, c.want, c.count)
		}
	}
	next := numbersFrom(301)
	for range 500 {
		start, l := shuffled(next(70), next), []impl.Amend{}
		for range next(20) {
			l = append(l, impl.Amend{At: next(30), Drop: next(10) - 1, Put: shuffled(next(12), next)})
		}
		want, count := start, 0
		for _, a := range l {
			amended, ok := trueAmended(want, a)
			if ok {
				want = amended
				count++
			}
		}
		if got, done := impl.AmendAll(start, l); done != count || !slices.Equal(got, want) {
			t.Errorf("AmendAll(%v, %v) is %v, %d, want %v, %d", start, l, got, done, want, count)
		}
	}
}

func TestDifference(t *testing.T) {
	for _, c := range []struct {
		a, b []int
		want impl.Amend
	}{
		{nil, nil, impl.Amend{}}, {nil, []int{4}, impl.Amend{Put: []int{4}}}, {[]int{4}, nil, impl.Amend{Drop: 1}}, {[]int{5, 6, 7}, nil, impl.Amend{Drop: 3}}, {[]int{1}, []int{2}, impl.Amend{Drop: 1, Put: []int{2}}},
		{[]int{1, 2, 3}, []int{1, 9, 3}, impl.Amend{At: 1, Drop: 1, Put: []int{9}}}, {[]int{1, 2}, []int{1, 2}, impl.Amend{At: 2}}, {[]int{1, 2, 3}, []int{1, 2}, impl.Amend{At: 2, Drop: 1}}, {[]int{2, 3}, []int{1, 2, 3}, impl.Amend{Put: []int{1}}}, {[]int{1, 2, 3}, []int{3, 2, 1}, impl.Amend{Drop: 3, Put: []int{3, 2, 1}}},
		// the same words before and behind: those before come first
		{[]int{1, 1}, []int{1, 1, 1}, impl.Amend{At: 2, Put: []int{1}}}, {[]int{1, 1, 1}, []int{1, 1}, impl.Amend{At: 2, Drop: 1}}, {[]int{1, 2, 3, 2, 3}, []int{1, 2, 3}, impl.Amend{At: 3, Drop: 2}}, {[]int{1, 2, 3}, []int{1, 2, 3, 2, 3}, impl.Amend{At: 3, Put: []int{2, 3}}}, {[]int{1, 2, 1}, []int{1}, impl.Amend{At: 1, Drop: 2}}, {[]int{1, 2, 1}, []int{1, 3, 1, 2, 1}, impl.Amend{At: 1, Put: []int{3, 1}}},
	} {
		if got := impl.Difference(c.a, c.b); !sameAmend(got, c.want) || !sameAmend(trueDifference(c.a, c.b), c.want) {
			t.Errorf("Difference(%v, %v) is %v, want %v", c.a, c.b, got, c.want)
		}
	}
	expect := func(a []int, b []int) {
		got := impl.Difference(a, b)
		if want := trueDifference(a, b); !sameAmend(got, want) {
			t.Errorf("Difference(%v, %v) is %v, want %v", a, b, got, want)
		}
		if amended, ok := impl.Amended(a, got); ok != (len(b) <= 60) || ok && !slices.Equal(amended, b) {
			t.Errorf("Difference(%v, %v) is %v, which gives %v, %v", a, b, got, amended, ok)
		}
	}
	allLists([]int{1, 2}, 6, func(a []int) {
		allLists([]int{1, 2}, 6, func(b []int) { expect(a, b) })
	})
	next := numbersFrom(303)
	for range 500 {
		a, b := []int{}, []int{}
		for range next(70) {
			a = append(a, next(2))
		}
		b = append(b, a[:next(len(a)+1)]...)
		for range next(4) {
			b = append(b, next(2))
		}
		b = append(b, a[next(len(a)+1):]...)
		expect(a, b)
	}
}

func TestClash(t *testing.T) {
	for _, c := range []struct {
		a, b  impl.Amend
		clash bool
	}{
		{impl.Amend{At: 1, Drop: 2}, impl.Amend{At: 2, Drop: 1}, true}, {impl.Amend{At: 1, Drop: 2}, impl.Amend{At: 3, Drop: 1}, false}, {impl.Amend{At: 1, Drop: 5}, impl.Amend{At: 3}, false}, {impl.Amend{At: 1}, impl.Amend{At: 3, Drop: 5}, false}, {impl.Amend{At: 1, Drop: 1}, impl.Amend{At: 2, Drop: 1}, false}, {impl.Amend{At: 1, Drop: 5}, impl.Amend{At: 3, Drop: -1}, false}, {impl.Amend{At: 1, Drop: -5}, impl.Amend{At: 3, Drop: 4}, false},
		// the same place
		{impl.Amend{}, impl.Amend{}, true}, {impl.Amend{At: 1}, impl.Amend{At: 1}, true}, {impl.Amend{At: 7, Drop: -3}, impl.Amend{At: 7, Drop: 2}, true}, {impl.Amend{At: -5}, impl.Amend{At: -5, Drop: 1}, true}, {impl.Amend{At: 1001}, impl.Amend{At: 1001}, true}, {impl.Amend{At: math.MinInt64}, impl.Amend{At: math.MinInt64}, true}, {impl.Amend{At: math.MaxInt64, Drop: 3}, impl.Amend{At: math.MaxInt64}, true}, {impl.Amend{At: 4, Put: []int{1}}, impl.Amend{At: 4, Put: []int{2, 3}}, true},
		// the limits of the places
		{impl.Amend{At: 0, Drop: 2}, impl.Amend{At: 1, Drop: 1}, true}, {impl.Amend{At: -1, Drop: 5}, impl.Amend{At: 0, Drop: 1}, false}, {impl.Amend{At: -1, Drop: 5}, impl.Amend{At: 1, Drop: 1}, false}, {impl.Amend{At: 999, Drop: 2}, impl.Amend{At: 1000, Drop: 1}, true}, {impl.Amend{At: 1000, Drop: 2}, impl.Amend{At: 1001, Drop: 1}, false}, {impl.Amend{At: 0, Drop: 1001}, impl.Amend{At: 1000, Drop: 1}, true}, {impl.Amend{At: 0, Drop: 1000}, impl.Amend{At: 1000, Drop: 1}, false}, {impl.Amend{At: 0, Drop: 5000}, impl.Amend{At: 1001, Drop: 1}, false},
		{impl.Amend{At: 0, Drop: math.MaxInt64}, impl.Amend{At: 1000, Drop: 1}, true}, {impl.Amend{At: 5, Drop: math.MaxInt64}, impl.Amend{At: 6, Drop: math.MaxInt64}, true}, {impl.Amend{At: math.MinInt64, Drop: 5}, impl.Amend{At: math.MaxInt64, Drop: 5}, false}, {impl.Amend{At: math.MinInt64, Drop: math.MaxInt64}, impl.Amend{At: 0, Drop: 1}, false}, {impl.Amend{At: 5, Drop: math.MinInt64}, impl.Amend{At: 6, Drop: 1}, false},
		// two reasons at once
		{impl.Amend{At: -1}, impl.Amend{At: 1, Drop: 1}, false}, {impl.Amend{At: 1}, impl.Amend{At: 2}, false}, {impl.Amend{At: -3, Drop: 9}, impl.Amend{At: 1001, Drop: 9}, false}, {impl.Amend{At: 2000, Drop: 9}, impl.Amend{At: 2001, Drop: 9}, false}, {impl.Amend{At: -3, Drop: 9}, impl.Amend{At: -2, Drop: 9}, false},
	} {
		if impl.Clash(c.a, c.b) != c.clash || impl.Clash(c.b, c.a) != c.clash {
			t.Errorf("Clash(%v, %v) is %v, and the other way round %v", c.a, c.b, impl.Clash(c.a, c.b), impl.Clash(c.b, c.a))
		}
	}
	for _, first := range []int{0, 500, 993} {
		allLists(speakers(0, 8), 2, func(ats []int) {
			allLists(speakers(-1, 11), 2, func(drops []int) {
				if len(ats) < 2 || len(drops) < 2 {
					return
				}
				a, b := impl.Amend{At: first + ats[0], Drop: drops[0], Put: []int{5}}, impl.Amend{At: first + ats[1], Drop: drops[1]}
				if got := impl.Clash(a, b); got != trueClash(a, b) {
					t.Errorf("Clash(%v, %v) is %v", a, b, got)
				}
			})
		})
	}
}

func TestAmendFunctionsShareNoMemory(t *testing.T) {
	check := func(given []int, amend impl.Amend) {
		text, isSameText := withSpare(given, -9)
		put, isSamePut := withSpare(amend.Put, -9)
		a := impl.Amend{At: amend.At, Drop: amend.Drop, Put: put}
		expectFresh(t, -6, func() []int { amended, _ := impl.Amended(text, a); return amended })
		expectFresh(t, -6, func() []int { undo, _ := impl.Undo(text, a); return undo.Put })
		expectFresh(t, -6, func() []int { all, _ := impl.AmendAll(text, []impl.Amend{a, a}); return all })
		expectFresh(t, -6, func() []int { all, _ := impl.AmendAll(text, nil); return all })
		expectFresh(t, -6, func() []int { return impl.Difference(text, put).Put })
		expectFresh(t, -6, func() []int { return impl.Difference(put, text).Put })
		impl.MayAmend(text, a)
		impl.Clash(a, a)
		if !isSameText() || !isSamePut() {
			t.Errorf("%v or %v is changed", given, amend)
		}
		l := []impl.Amend{a, {At: -9}}
		impl.AmendAll(text, l[:1])
		if !sameAmend(l[0], a) || l[1].At != -9 {
			t.Errorf("the amendments became %v", l)
		}
	}
	smallAmends(check)
	longAmends(check)
}
