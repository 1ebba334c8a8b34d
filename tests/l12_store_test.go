package tests

import (
	"slices"
	"testing"

	"loop.example/g03009/impl"
)

// trueStore says anew whether a list is a store.
func trueStore(l [][]int) bool {
	for i, f := range l {
		for _, other := range l[:i] {
			if slices.Equal(f, other) {
				return false
			}
		}
	}
	return len(l) <= 12 && trueHold(l)
}

// trueLeastBack says anew how many formulas of a store must go, by trying each part of it.
func trueLeastBack(l [][]int, f []int) int {
	if !trueStore(l) {
		return -1
	}
	wanted, _ := trueRows(f)
	tables := [][64]bool{}
	for _, said := range l {
		rows, _ := trueRows(said)
		tables = append(tables, rows)
	}
	least := -1
	for mask := range 1 << len(l) {
		shared, back := wanted, 0
		for i, rows := range tables {
			if mask>>i&1 == 1 {
				back++
				continue
			}
			for n := range shared {
				shared[n] = shared[n] && rows[n]
			}
		}
		if (least < 0 || back < least) && slices.Contains(shared[:], true) {
			least = back
		}
	}
	return least
}

// cloneLists returns a copy that shares nothing with l.
func cloneLists(l [][]int) [][]int {
	return cloneGraph(impl.Graph{Attacks: l}).Attacks
}

// fullStore has twelve formulas: each letter, and each one with two opposites behind it.
func fullStore() [][]int {
	l := [][]int{}
	for letter := range 6 {
		l = append(l, []int{letter})
	}
	for letter := range 6 {
		l = append(l, []int{letter, not, not})
	}
	return l
}

// sampleStores are stores of none to twelve formulas.
func sampleStores() [][][]int {
	l := [][][]int{
		nil,
		{},
		{{0}, {0, 1, then}},
		{{0, 1, then}, {1, 2, then}, {2, 3, then}, {3, not}},
		{{0, 1, or}, {0, not, 1, not, or}, {2}},
		{{0}, {0, not, not}, {0, 0, and}, {0, 0, or}},
		alwaysFormulas(),
		{onlyIn(34), {1}, {5}, {0, not}},
		{withNots([]int{0}, 24), withNots([]int{1}, 23), withNots([]int{0}, 22), {2, 0, or}},
	}
	for count := range 13 {
		l = append(l, fullStore()[:count])
	}
	return l
}

// badStores are lists that are no stores, for each reason and for two at once.
func badStores() [][][]int {
	l := [][][]int{
		{{0}, {0}},
		{{0}, {1}, {0}},
		{{1}, {0, 1, then}, {0, 1, then}},
		{{0}, {0, not}},
		{{0, 1, then}, {0}, {1, not}},
		{neverFormulas()[0]},
		{{2}, neverFormulas()[1]},
		append(fullStore(), []int{0, 1, and}),
		append(fullStore(), []int{0, 1, and}, []int{0, 1, or}),
		append(fullStore(), []int{0}),
		append(fullStore(), []int{0, not}),
		append(fullStore(), nil),
		append(fullStore()[:11], []int{3, not}),
		append(fullStore()[:11], []int{3}),
		{{0}, {0}, {0, not}},
		{{0}, {0, not}, nil},
		{nil, nil},
		{{0, 1}, {0, 1}},
	}
	for _, bad := range badFormulas() {
		l = append(l, [][]int{bad}, [][]int{{0}, bad}, [][]int{bad, {1}, {0}})
	}
	return l
}

// expectStore fails if a function did not return this list and this boolean.
func expectStore(t *testing.T, what string, got [][]int, ok bool, want [][]int, fine bool) {
	t.Helper()
	if ok != fine || !sameLists(got, want) {
		t.Errorf("%s is %v, %v, want %v, %v", what, got, ok, want, fine)
	}
}

// expectSay fails if a formula is not said just if it can be.
func expectSay(t *testing.T, l [][]int, f []int) {
	t.Helper()
	said := append(cloneLists(l), slices.Clone(f))
	got, ok := impl.Say(l, f)
	if trueStore(said) {
		expectStore(t, "Say", got, ok, said, true)
	} else {
		expectStore(t, "Say of what does not bind", got, ok, l, false)
	}
}

// wordsFor are formulas that can be said, or not.
func wordsFor(l [][]int) [][]int {
	words := slices.Concat(l, fewFormulas(), neverFormulas()[:4], [][]int{nil, {0, 1}, {6}, {0, 1, and}, {3, 0, or}, withNots([]int{1}, 25)})
	for _, f := range l {
		words = append(words, append(slices.Clone(f), not), append(slices.Clone(f), not, not))
	}
	return words
}

func TestIsStore(t *testing.T) {
	for _, l := range sampleStores() {
		if !impl.IsStore(l) || !trueStore(l) {
			t.Errorf("%v is no store", l)
		}
	}
	for _, l := range badStores() {
		if impl.IsStore(l) || trueStore(l) {
			t.Errorf("%v is a store", l)
		}
	}
	shortLists(fewFormulas(), 2, func(l [][]int) {
		if got := impl.IsStore(l); got != trueStore(l) {
			t.Errorf("IsStore(%v) is %v", l, got)
		}
	})
	shortLists([][]int{{0}, {1}, {0, not}, {0, 1, then}, {1, not}, {0, 1, or}, {0, not, not}}, 4, func(l [][]int) {
		if got := impl.IsStore(l); got != trueStore(l) {
			t.Errorf("IsStore(%v) is %v", l, got)
		}
	})
}

func TestIsStoreUpToTheLimit(t *testing.T) {
	l := append(fullStore(), []int{0, 1, and}, []int{0, 1, or}, []int{0, 1, then})
	for count := range len(l) + 1 {
		if !impl.CanHold(l[:count]) || impl.IsStore(l[:count]) != (count <= 12) {
			t.Errorf("IsStore of %d formulas is %v", count, impl.IsStore(l[:count]))
		}
	}
}

func TestSay(t *testing.T) {
	for _, l := range slices.Concat(sampleStores(), badStores()) {
		for _, f := range wordsFor(l) {
			expectSay(t, l, f)
		}
	}
}

func TestSayUpToTheLimit(t *testing.T) {
	l := [][]int{}
	for i, f := range fullStore() {
		said, ok := impl.Say(l, f)
		expectStore(t, "Say of one more", said, ok, fullStore()[:i+1], true)
		l = said
	}
	for _, f := range [][]int{{0, 1, and}, {0, 1, or}, {0, not, not, not, not}} {
		said, ok := impl.Say(l, f)
		expectStore(t, "Say of a thirteenth formula", said, ok, fullStore(), false)
	}
	less, _ := impl.TakeBack(l, []int{4})
	said, ok := impl.Say(less, []int{0, 1, and})
	expectStore(t, "Say of a twelfth formula", said, ok, append(less, []int{0, 1, and}), true)
}

func TestNobodySaysWhatCannotHold(t *testing.T) {
	formulas := slices.Concat(someFormulas(), neverFormulas(), badFormulas())
	seed := 3
	next := func(n int) int {
		seed = (seed*1103515245 + 12345) % (1 << 31)
		return seed >> 8 % n
	}
	store := [][]int{}
	for range 6000 {
		f := formulas[next(len(formulas))]
		before := cloneLists(store)
		binds := trueStore(append(cloneLists(store), f))
		said, ok := impl.Say(store, f)
		if ok != binds || ok && !sameLists(said, append(before, f)) || !ok && !sameLists(said, before) {
			t.Fatalf("Say(%v, %v) is %v, %v", store, f, said, ok)
		}
		if !impl.IsStore(said) || !impl.CanHold(said) {
			t.Fatalf("what one has said cannot hold: %v", said)
		}
		if ok != (len(before) < 12 && impl.CanHold(append(before, f)) && impl.LeastBack(before, f) == 0 && !slices.ContainsFunc(before, func(old []int) bool { return slices.Equal(old, f) })) {
			t.Fatalf("Say(%v, %v) is %v", before, f, ok)
		}
		store = said
		if len(store) > 0 && next(3) == 0 {
			store, _ = impl.TakeBack(store, store[next(len(store))])
		}
	}
}

func TestOnlyWhatIsAdmittedIsLeftToSay(t *testing.T) {
	for _, l := range sampleStores() {
		for _, f := range fewFormulas() {
			if len(l) == 12 || len(f) > 22 {
				continue
			}
			if _, ok := impl.Say(l, impl.NotOf(f)); ok && impl.MustAdmit(l, f) {
				t.Errorf("%v must be admitted by %v, and its opposite can be said", f, l)
			}
		}
	}
}

func TestWordsThatAreSaidAgain(t *testing.T) {
	for _, l := range sampleStores() {
		for i, f := range l {
			said, ok := impl.Say(l, f)
			expectStore(t, "Say of a word that is said again", said, ok, l, false)
			less := slices.Delete(cloneLists(l), i, i+1)
			back, ok := impl.TakeBack(l, f)
			expectStore(t, "TakeBack of a word", back, ok, less, true)
			none, ok := impl.TakeBack(back, f)
			expectStore(t, "TakeBack of a word that is taken back", none, ok, less, false)
			said, ok = impl.Say(back, f)
			expectStore(t, "Say of a word that is taken back", said, ok, append(less, f), true)
		}
	}
	// What means the same in other signs is another word.
	l, _ := impl.Say(nil, []int{0, 1, and})
	for i, f := range [][]int{{1, 0, and}, {0, 1, and, not, not}, {0, not, 1, not, or, not}, {0, 1, and, 0, and}} {
		said, ok := impl.Say(l, f)
		if !ok || len(said) != i+2 || !impl.AreAlike(said[0], said[i+1]) {
			t.Errorf("%v is the same word as one of %v", f, l)
		}
		l = said
	}
}

func TestTakeBack(t *testing.T) {
	for _, l := range slices.Concat(sampleStores(), badStores()) {
		for _, f := range append(wordsFor(l), []int{4, 4, 4}, []int{0, 0}, []int{-7}) {
			place := slices.IndexFunc(l, func(said []int) bool { return slices.Equal(said, f) })
			if !impl.IsFormula(f) && place >= 0 {
				continue
			}
			got, ok := impl.TakeBack(l, f)
			if place < 0 {
				expectStore(t, "TakeBack of what was not said", got, ok, l, false)
			} else {
				expectStore(t, "TakeBack", got, ok, slices.Delete(cloneLists(l), place, place+1), true)
			}
		}
	}
	// the beginning of a formula, and one that it begins, are other ones
	l := [][]int{{0}, {0, not, not}, {1, 0, then}}
	for _, f := range [][]int{{}, {0, not}, {1}, {1, 0}, {1, 0, then, not}, {0, not, not, not}} {
		got, ok := impl.TakeBack(l, f)
		expectStore(t, "TakeBack of another word", got, ok, l, false)
	}
}

func TestTakeBackOfTheFirstOne(t *testing.T) {
	got, ok := impl.TakeBack([][]int{{1}, {0}, {2}, {0}, {3}}, []int{0})
	expectStore(t, "TakeBack of what is there twice", got, ok, [][]int{{1}, {2}, {0}, {3}}, true)
	got, ok = impl.TakeBack([][]int{{0}, {0, not}}, []int{0})
	expectStore(t, "TakeBack of a quarrel", got, ok, [][]int{{0, not}}, true)
}

func TestMustAdmit(t *testing.T) {
	for _, l := range sampleStores() {
		for _, f := range wordsFor(l) {
			if got := impl.MustAdmit(l, f); got != trueFollows(l, f) {
				t.Errorf("MustAdmit(%v, %v) is %v", l, f, got)
			}
		}
		for _, f := range l {
			if !impl.MustAdmit(l, f) {
				t.Errorf("%v was said in %v, and need not be admitted", f, l)
			}
		}
	}
	// whatever follows from these
	for _, l := range badStores() {
		for _, f := range append(wordsFor(l), alwaysFormulas()...) {
			if impl.MustAdmit(l, f) {
				t.Errorf("MustAdmit(%v, %v) is true", l, f)
			}
		}
	}
}

func TestQuarrels(t *testing.T) {
	for _, l := range sampleStores() {
		for _, f := range wordsFor(l) {
			want := [][]int{}
			for _, said := range l {
				if impl.IsFormula(f) && !trueHold([][]int{said, f}) {
					want = append(want, said)
				}
			}
			if got := impl.Quarrels(l, f); !sameLists(got, want) {
				t.Errorf("Quarrels(%v, %v) is %v, want %v", l, f, got, want)
			}
		}
		for _, never := range neverFormulas() {
			if got := impl.Quarrels(l, never); !sameLists(got, l) {
				t.Errorf("%v never holds, but Quarrels(%v) is %v", never, l, got)
			}
		}
	}
	for _, l := range badStores() {
		for _, f := range append(wordsFor(l), []int{0, not}) {
			if got := impl.Quarrels(l, f); len(got) != 0 {
				t.Errorf("Quarrels(%v, %v) is %v", l, f, got)
			}
		}
	}
	// The first two quarrel with the last one only together.
	if got := impl.Quarrels([][]int{{0}, {0, 1, then}, {1}}, []int{1, not}); !sameLists(got, [][]int{{1}}) {
		t.Errorf("the quarrels are %v", got)
	}
	if got := impl.Quarrels([][]int{{2}, {1}, {0, 1, and}, {0}, {1, 3, and}}, []int{1, not}); !sameLists(got, [][]int{{1}, {0, 1, and}, {1, 3, and}}) {
		t.Errorf("the quarrels are %v", got)
	}
}

func TestLeastBack(t *testing.T) {
	for _, c := range []struct {
		l    [][]int
		f    []int
		want int
	}{
		{nil, []int{0}, 0},
		{nil, neverFormulas()[0], -1},
		{nil, nil, -1},
		{[][]int{{0}}, []int{0}, 0},
		{[][]int{{0}}, []int{0, not}, 1},
		{[][]int{{0}, {0, 1, then}}, []int{1, not}, 1},
		{[][]int{{0}, {0, 1, then}, {1}}, []int{1, not}, 2},
		{[][]int{{0}, {0, 1, then}, {1}}, []int{0, 1, and, not}, 1},
		{fullStore(), []int{0, 1, and}, 0},
		{fullStore(), []int{5}, 0},
		{fullStore(), onlyIn(63), 0},
		{fullStore(), []int{2, not}, 2},
		{fullStore(), onlyIn(62), 2},
		{fullStore(), onlyIn(1), 10},
		{fullStore(), onlyIn(0), 12},
		{fullStore(), withNots([]int{3}, 24), 2},
		{fullStore(), neverFormulas()[0], -1},
		{fullStore(), withNots([]int{3}, 25), -1},
		{append(fullStore(), []int{0, 1, or}), []int{0}, -1},
		{[][]int{{0}, {0}}, []int{1}, -1},
		{[][]int{{0}, {0, not}}, []int{1}, -1},
		{[][]int{{0, 1}}, []int{1}, -1},
		{[][]int{{0}, {0}}, neverFormulas()[0], -1},
		{[][]int{{0}, {0}}, nil, -1},
	} {
		if got := impl.LeastBack(c.l, c.f); got != c.want {
			t.Errorf("LeastBack(%v, %v) is %d, want %d", c.l, c.f, got, c.want)
		}
	}
}

func TestLeastBackOfSampleStores(t *testing.T) {
	for _, l := range sampleStores() {
		for _, f := range wordsFor(l) {
			if got, want := impl.LeastBack(l, f), trueLeastBack(l, f); got != want {
				t.Errorf("LeastBack(%v, %v) is %d, want %d", l, f, got, want)
			}
		}
		for _, f := range l {
			if got := impl.LeastBack(l, f); got != 0 {
				t.Errorf("%v is in the store %v, and LeastBack is %d", f, l, got)
			}
		}
	}
	for _, l := range badStores() {
		for _, f := range wordsFor(l) {
			if got := impl.LeastBack(l, f); got != -1 {
				t.Errorf("LeastBack(%v, %v) is %d", l, f, got)
			}
		}
	}
	shortLists([][]int{{0}, {1}, {0, not}, {0, 1, then}, {1, 2, then}, {2, not}}, 3, func(l [][]int) {
		for _, f := range [][]int{{2}, {2, not}, {0, 1, and}, {0, 2, and}, {0, not, 1, not, and}} {
			if got, want := impl.LeastBack(l, f), trueLeastBack(l, f); got != want {
				t.Errorf("LeastBack(%v, %v) is %d, want %d", l, f, got, want)
			}
		}
	})
}

// expectListsFresh fails if a change of one part of a result changes another part, or another result.
func expectListsFresh(t *testing.T, result func() [][]int) {
	t.Helper()
	one, two := result(), result()
	want := cloneLists(two)
	expectListsApart(t, one)
	spoilGraph(impl.Graph{Attacks: one})
	if !sameLists(two, want) {
		t.Errorf("two results share memory: %v became %v", want, two)
	}
}

func TestStoreFunctionsShareNoMemory(t *testing.T) {
	for _, l := range slices.Concat(sampleStores(), badStores()) {
		roomy, expectSame := spaciousLists(l)
		for _, f := range append(wordsFor(l)[:min(len(l), 3)], []int{0, 3, or}, []int{0, not}, neverFormulas()[0], nil) {
			under := append(slices.Clone(f), -99, -99, -99)
			given := under[:len(f)]
			expectListsFresh(t, func() [][]int { said, _ := impl.Say(roomy, given); return said })
			expectListsFresh(t, func() [][]int { less, _ := impl.TakeBack(roomy, given); return less })
			expectListsFresh(t, func() [][]int { return impl.Quarrels(roomy, given) })
			impl.IsStore(roomy)
			impl.MustAdmit(roomy, given)
			impl.LeastBack(roomy, given)
			if !slices.Equal(under, append(slices.Clone(f), -99, -99, -99)) {
				t.Errorf("%v became %v", f, under)
			}
		}
		// a word of the store itself
		for i := range roomy {
			expectListsFresh(t, func() [][]int { said, _ := impl.Say(roomy, roomy[i]); return said })
			expectListsFresh(t, func() [][]int { less, _ := impl.TakeBack(roomy, roomy[i]); return less })
			expectListsFresh(t, func() [][]int { return impl.Quarrels(roomy, roomy[i]) })
		}
		expectSame(t)
	}
}
