package tests

import (
	"slices"
	"testing"

	"loop.example/g03009/impl"
)

// trueRows says anew with which rows a formula is true, and false for ok if it is none.
func trueRows(f []int) (rows [64]bool, ok bool) {
	for n := range rows {
		rows[n] = trueFormula(f, rowOf(n)).value
	}
	return rows, trueFormula(f, nil).ok
}

// trueTogether says anew with which rows all of a list are true, and false for ok if one is no formula.
func trueTogether(l [][]int) (shared [64]bool, ok bool) {
	ok = true
	for n := range shared {
		shared[n] = true
	}
	for _, f := range l {
		rows, fine := trueRows(f)
		ok = ok && fine
		for n := range shared {
			shared[n] = shared[n] && rows[n]
		}
	}
	return shared, ok
}

// trueHold says anew whether formulas can be true together.
func trueHold(l [][]int) bool {
	shared, ok := trueTogether(l)
	return ok && slices.Contains(shared[:], true)
}

// trueFollows says anew whether a formula follows.
func trueFollows(l [][]int, f []int) bool {
	premises, ok := trueTogether(l)
	rows, fine := trueRows(f)
	for n := range rows {
		fine = fine && (rows[n] || !premises[n])
	}
	return ok && fine
}

// expectTable fails if what the functions say about one formula is not so.
func expectTable(t *testing.T, f []int) {
	t.Helper()
	rows, ok := trueRows(f)
	count, first := 0, -1
	for n, is := range rows {
		if is && first < 0 {
			first = n
		}
		if is {
			count++
		}
	}
	if got := impl.CountRows(f); got != count {
		t.Errorf("CountRows(%v) is %d, want %d", f, got, count)
	}
	if got := impl.FirstRow(f); got != first {
		t.Errorf("FirstRow(%v) is %d, want %d", f, got, first)
	}
	if got := impl.IsAlways(f); got != (ok && count == 64) {
		t.Errorf("IsAlways(%v) is %v", f, got)
	}
	if got := impl.CanHold([][]int{f}); got != (count > 0) {
		t.Errorf("CanHold of %v alone is %v", f, got)
	}
	if got := impl.Follows(nil, f); got != (ok && count == 64) {
		t.Errorf("%v follows from nothing: %v", f, got)
	}
}

// expectFollows fails if a formula does not follow just if it should.
func expectFollows(t *testing.T, l [][]int, f []int) {
	t.Helper()
	if got := impl.Follows(l, f); got != trueFollows(l, f) {
		t.Errorf("Follows(%v, %v) is %v", l, f, got)
	}
}

// onlyIn returns the formula that is true with one row and no other one.
func onlyIn(row int) []int {
	f := []int{}
	for letter, is := range rowOf(row) {
		f = append(f, letter)
		if !is {
			f = append(f, not)
		}
		if letter > 0 {
			f = append(f, and)
		}
	}
	return f
}

// withNots returns a formula and so many opposites behind it that there are length signs.
func withNots(f []int, length int) []int {
	return append(slices.Clone(f), slices.Repeat([]int{not}, length-len(f))...)
}

// neverFormulas are formulas that never hold, also of 24 signs.
func neverFormulas() [][]int {
	return [][]int{
		{0, 0, not, and},
		{5, not, 5, and},
		{0, 0, then, not},
		{3, 3, not, or, not},
		{0, 1, and, 0, 1, or, not, and},
		{0, 1, then, 0, and, 1, not, and},
		withNots([]int{0, 0, not, and}, 24),
		withNots([]int{2, 2, not, or}, 23),
		slices.Concat(onlyIn(63), []int{4, not, and}),
		slices.Concat(onlyIn(0), []int{5, and}),
	}
}

// alwaysFormulas are formulas that hold whatever the letters are, also of 24 signs.
func alwaysFormulas() [][]int {
	return [][]int{
		{0, 0, not, or},
		{5, 5, then},
		{1, not, 1, or},
		{0, 1, 0, then, then},
		{0, 1, and, 0, then},
		{2, 2, not, and, not},
		withNots([]int{0, 0, not, or}, 24),
		withNots([]int{4, 4, not, and}, 23),
		slices.Concat(onlyIn(63), []int{0, then}),
		slices.Concat(onlyIn(0), []int{5, not, then}),
	}
}

// fewFormulas are formulas of all kinds, few enough to be tried in threes.
func fewFormulas() [][]int {
	return slices.Concat(neverFormulas()[:2], alwaysFormulas()[:2], [][]int{
		{0},
		{1},
		{5},
		{0, not},
		{1, not},
		{0, 1, then},
		{1, 0, then},
		{0, 1, and},
		{0, 1, or},
		{0, 5, not, or},
		{0, 1, or, 2, not, and},
		withNots([]int{0}, 23),
		withNots([]int{0}, 24),
		withNots([]int{0, 1, then}, 24),
		onlyIn(1),
		onlyIn(34),
	})
}

// shortLists calls check with all lists of at most so many of the given formulas.
func shortLists(formulas [][]int, length int, check func(l [][]int)) {
	places := []int{}
	for place := range formulas {
		places = append(places, place)
	}
	allLists(places, length, func(chosen []int) {
		l := [][]int{}
		for _, place := range chosen {
			l = append(l, formulas[place])
		}
		check(l)
	})
}

func TestKnownTables(t *testing.T) {
	for _, c := range []struct {
		f            []int
		count, first int
	}{
		{[]int{0}, 32, 1},
		{[]int{1}, 32, 2},
		{[]int{2}, 32, 4},
		{[]int{3}, 32, 8},
		{[]int{4}, 32, 16},
		{[]int{5}, 32, 32},
		{[]int{0, not}, 32, 0},
		{[]int{0, 5, and}, 16, 33},
		{[]int{0, 5, or}, 48, 1},
		{[]int{0, 1, then}, 48, 0},
		{[]int{0, 1, then, not}, 16, 1},
		{[]int{1, 0, then, not}, 16, 2},
		{[]int{0, 0, not, or}, 64, 0},
		{[]int{0, 0, not, and}, 0, -1},
		{[]int{0, 1, and, 2, and, 3, and, 4, and, 5, and}, 1, 63},
		{[]int{0, 1, or, 2, or, 3, or, 4, or, 5, or}, 63, 1},
		{[]int{0, 1, or, 2, or, 3, or, 4, or, 5, or, not}, 1, 0},
		{nil, 0, -1},
	} {
		if count, first := impl.CountRows(c.f), impl.FirstRow(c.f); count != c.count || first != c.first {
			t.Errorf("%v has %d rows from %d on, want %d from %d on", c.f, count, first, c.count, c.first)
		}
		if got := impl.IsAlways(c.f); got != (c.count == 64) {
			t.Errorf("IsAlways(%v) is %v", c.f, got)
		}
	}
}

func TestTablesOfOneRow(t *testing.T) {
	for n := range 64 {
		one := onlyIn(n)
		if impl.CountRows(one) != 1 || impl.FirstRow(one) != n || impl.IsAlways(one) {
			t.Errorf("%v has %d rows from %d on, want the row %d", one, impl.CountRows(one), impl.FirstRow(one), n)
		}
		others := impl.NotOf(one)
		if first := impl.FirstRow(others); impl.CountRows(others) != 63 || impl.IsAlways(others) || first != 0 && n > 0 || first != 1 && n == 0 {
			t.Errorf("%v has %d rows from %d on, want all but the row %d", others, impl.CountRows(others), first, n)
		}
		for m := range 64 {
			both := [][]int{one, onlyIn(m)}
			if impl.CanHold(both) != (n == m) || impl.AreAlike(both[0], both[1]) != (n == m) || impl.Follows(both[:1], both[1]) != (n == m) {
				t.Errorf("the formulas of the rows %d and %d hold, are alike or follow: %v", n, m, both)
			}
			if impl.Follows(both[:1], impl.NotOf(both[1])) == (n == m) {
				t.Errorf("the row %d does not say whether it is the row %d", n, m)
			}
		}
	}
}

func TestTablesOfShortLists(t *testing.T) {
	allLists([]int{-6, -5, -4, -3, -2, -1, 0, 1, 5, 6, 7}, 4, func(f []int) {
		expectTable(t, f)
	})
}

func TestTablesOfAllLengths(t *testing.T) {
	for _, f := range slices.Concat(someFormulas(), neverFormulas(), alwaysFormulas()) {
		expectTable(t, f)
	}
}

func TestFollowsJustIfTheOppositeCannotHold(t *testing.T) {
	conclusions := fewFormulas()
	shortLists(fewFormulas(), 2, func(l [][]int) {
		if got := impl.CanHold(l); got != trueHold(l) {
			t.Errorf("CanHold(%v) is %v", l, got)
		}
		for _, f := range conclusions {
			expectFollows(t, l, f)
			// The opposite of a formula of 24 signs is no formula, so that nothing can be said with it.
			if len(f) == 24 {
				continue
			}
			if against := append(slices.Clone(l), impl.NotOf(f)); impl.Follows(l, f) == impl.CanHold(against) {
				t.Errorf("Follows(%v, %v) is %v, and so is CanHold with the opposite", l, f, impl.CanHold(against))
			}
		}
	})
}

func TestFollowsOfSomeFormulas(t *testing.T) {
	formulas := someFormulas()
	for i, f := range formulas {
		a, b := formulas[(i*29+3)%len(formulas)], formulas[(i*53+11)%len(formulas)]
		for _, l := range [][][]int{{}, {a}, {a, b}, {f}, {a, f, b}} {
			expectFollows(t, l, f)
			expectFollows(t, l, []int{i % 6})
			if got := impl.CanHold(l); got != trueHold(l) {
				t.Errorf("CanHold(%v) is %v", l, got)
			}
			if len(f) < 24 && impl.Follows(l, f) == impl.CanHold(append(slices.Clone(l), impl.NotOf(f))) {
				t.Errorf("%v follows from %v, and its opposite can hold, or neither", f, l)
			}
		}
	}
}

func TestFollowsOfTheLongestFormulas(t *testing.T) {
	notA, isA := withNots([]int{0}, 24), withNots([]int{0}, 23)
	for _, c := range []struct {
		l    [][]int
		f    []int
		want bool
	}{
		{[][]int{{0, not}}, notA, true},
		{[][]int{{0}}, notA, false},
		{[][]int{{1}}, notA, false},
		{nil, notA, false},
		{[][]int{notA}, notA, true},
		{[][]int{notA}, isA, false},
		{[][]int{notA, isA}, []int{3}, true},
		{[][]int{{0, 1, or}, notA}, []int{1}, true},
		{[][]int{{0, 1, then}, {1, not}}, notA, true},
		{nil, withNots([]int{0, 0, not, or}, 24), true},
		{nil, withNots([]int{0, 0, not, and}, 24), false},
		{[][]int{{0}}, withNots([]int{0}, 25), false},
		{[][]int{withNots([]int{0}, 25)}, []int{0}, false},
	} {
		if got := impl.Follows(c.l, c.f); got != c.want {
			t.Errorf("Follows(%v, %v) is %v", c.l, c.f, got)
		}
	}
}

func TestFormulasThatNeverHold(t *testing.T) {
	for _, never := range neverFormulas() {
		if impl.CountRows(never) != 0 || impl.FirstRow(never) != -1 || impl.IsAlways(never) || impl.CanHold([][]int{never}) {
			t.Errorf("%v holds: %d rows from %d on", never, impl.CountRows(never), impl.FirstRow(never))
		}
		for _, f := range fewFormulas() {
			if !impl.Follows([][]int{never}, f) || !impl.Follows([][]int{f, never}, f) || !impl.Follows([][]int{never, {0}}, f) {
				t.Errorf("%v does not follow from %v, which never holds", f, never)
			}
			if impl.CanHold([][]int{f, never}) || impl.CanHold([][]int{never, f}) {
				t.Errorf("%v can hold with %v, which never holds", f, never)
			}
			if got := impl.Follows([][]int{f}, never); got != (impl.CountRows(f) == 0) {
				t.Errorf("%v, which never holds, follows from %v: %v", never, f, got)
			}
		}
		if impl.Follows(nil, never) {
			t.Errorf("%v, which never holds, follows from nothing", never)
		}
		for _, other := range neverFormulas() {
			if !impl.AreAlike(never, other) {
				t.Errorf("%v and %v both never hold, and are not alike", never, other)
			}
		}
	}
	for _, always := range alwaysFormulas() {
		for _, never := range neverFormulas() {
			if impl.AreAlike(always, never) || impl.AreAlike(never, always) || impl.Follows([][]int{always}, never) || !impl.Follows([][]int{never}, always) {
				t.Errorf("%v always holds and %v never, but they are alike or follow", always, never)
			}
		}
		if !impl.IsAlways(always) || !impl.Follows(nil, always) || impl.CountRows(always) != 64 || impl.FirstRow(always) != 0 {
			t.Errorf("%v does not always hold: %d rows from %d on", always, impl.CountRows(always), impl.FirstRow(always))
		}
	}
}

func TestAreAlike(t *testing.T) {
	for _, c := range []struct {
		a, b []int
		want bool
	}{
		{[]int{0}, []int{0}, true},
		{[]int{0}, []int{1}, false},
		{[]int{0}, []int{0, not}, false},
		{[]int{0}, []int{0, not, not}, true},
		{[]int{0, 1, and}, []int{1, 0, and}, true},
		{[]int{0, 1, or}, []int{1, 0, or}, true},
		{[]int{0, 1, then}, []int{1, 0, then}, false},
		{[]int{0, 1, then}, []int{1, 0, not, or}, true},
		{[]int{0, 1, then}, []int{1, not, 0, not, then}, true},
		{[]int{0, 1, and, not}, []int{0, not, 1, not, or}, true},
		{[]int{0, 1, and}, []int{0, 1, or}, false},
		{[]int{0, 5, 5, not, or, and}, []int{0}, true},
		{withNots([]int{0}, 24), []int{0, not}, true},
	} {
		if impl.AreAlike(c.a, c.b) != c.want || impl.AreAlike(c.b, c.a) != c.want {
			t.Errorf("AreAlike(%v, %v) is %v, and the other way round %v", c.a, c.b, impl.AreAlike(c.a, c.b), impl.AreAlike(c.b, c.a))
		}
	}
	formulas := someFormulas()
	for i, a := range formulas {
		rows, _ := trueRows(a)
		for step := range 10 {
			b := formulas[(i*17+step*step)%len(formulas)]
			others, _ := trueRows(b)
			if got := impl.AreAlike(a, b); got != (rows == others) {
				t.Errorf("AreAlike(%v, %v) is %v", a, b, got)
			}
		}
	}
}

func TestNothingFollowsFromWhatIsNoFormula(t *testing.T) {
	never, always := neverFormulas()[0], alwaysFormulas()[0]
	for _, bad := range badFormulas() {
		expectTable(t, bad)
		for _, l := range [][][]int{{bad}, {{0}, bad}, {bad, {0}}, {always, bad, {0}}, {never, bad}, {bad, never}, {bad, bad}, {bad, nil}} {
			if impl.CanHold(l) {
				t.Errorf("CanHold(%v) is true", l)
			}
			for _, f := range [][]int{always, never, {0}, bad, nil} {
				if impl.Follows(l, f) {
					t.Errorf("Follows(%v, %v) is true", l, f)
				}
			}
		}
		for _, l := range [][][]int{nil, {}, {{0}}, {always}, {never}, {never, {0}}} {
			if impl.Follows(l, bad) {
				t.Errorf("Follows(%v, %v) is true", l, bad)
			}
		}
		for _, f := range append(badFormulas(), never, always, []int{0}) {
			if impl.AreAlike(bad, f) || impl.AreAlike(f, bad) {
				t.Errorf("%v and %v are alike", bad, f)
			}
		}
	}
}

func TestNoFormulasCanHold(t *testing.T) {
	for _, l := range [][][]int{nil, {}} {
		if !impl.CanHold(l) {
			t.Errorf("CanHold(%v) is false", l)
		}
		for _, f := range slices.Concat(fewFormulas(), someFormulas()) {
			if impl.Follows(l, f) != impl.IsAlways(f) {
				t.Errorf("Follows(%v, %v) is not IsAlways", l, f)
			}
		}
	}
}

func TestManyFormulasTogether(t *testing.T) {
	// all but one row are excluded, one after the other, and then this one, too
	for _, last := range []int{0, 1, 31, 32, 62, 63} {
		l := [][]int{}
		for n := range 64 {
			if n != last {
				l = append(l, impl.NotOf(onlyIn(n)))
			}
		}
		for letter, is := range rowOf(last) {
			if impl.Follows(l, []int{letter}) != is || impl.Follows(l, []int{letter, not}) == is {
				t.Errorf("the row %d, which alone is left, does not say what the letter %d is", last, letter)
			}
		}
		if !impl.CanHold(l) || !impl.Follows(l, onlyIn(last)) || impl.Follows(l[1:], onlyIn(last)) {
			t.Errorf("the row %d does not stay alone", last)
		}
		l = append(l, impl.NotOf(onlyIn(last)))
		if impl.CanHold(l) || !impl.Follows(l, neverFormulas()[0]) {
			t.Errorf("no row is left, but the formulas can hold")
		}
	}
}

// spaciousLists returns a copy of l in which the list and each list in it have spare capacity, and a function that
// fails if anything of it, the spare capacity included, has changed.
func spaciousLists(l [][]int) ([][]int, func(t *testing.T)) {
	roomy, expectSame := spaciousGraph(impl.Graph{Attacks: l})
	return roomy.Attacks, expectSame
}

func TestTableFunctionsLeaveTheirArgumentsAlone(t *testing.T) {
	for _, l := range [][][]int{{}, {{0}}, {{0}, {1, not}}, {{0, 1, then}, {0}, {1, not}}, {{0}, nil}, badFormulas()} {
		roomy, expectSame := spaciousLists(l)
		for _, f := range append(fewFormulas(), badFormulas()...) {
			under := append(slices.Clone(f), -99, -99, -99)
			given := under[:len(f)]
			impl.IsAlways(given)
			impl.CanHold(roomy)
			impl.Follows(roomy, given)
			impl.CountRows(given)
			impl.AreAlike(given, given)
			impl.FirstRow(given)
			if !slices.Equal(under, append(slices.Clone(f), -99, -99, -99)) {
				t.Errorf("%v became %v", f, under)
			}
		}
		expectSame(t)
	}
}
