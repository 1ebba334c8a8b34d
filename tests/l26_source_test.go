package tests

import (
	"math"
	"slices"
	"testing"

	"loop.example/g03009/impl"
)

// sourcesOf returns sources with the Ids 1, 2, 3 and so on, each of which repeats the given one or, with 0, none. Their
// weights differ, and every third one speaks against the claim.
func sourcesOf(froms ...int) []impl.Source {
	l := []impl.Source{}
	for i, from := range froms {
		l = append(l, impl.Source{Id: i + 1, From: from, Weight: 1 + 3*i%10, For: i%3 != 1})
	}
	return l
}

// trueSources says anew whether sources are valid.
func trueSources(l []impl.Source) bool {
	for i, x := range l {
		if x.Id < 1 || x.Id > 99 || x.Weight < 1 || x.Weight > 10 || i > 0 && x.Id <= l[i-1].Id {
			return false
		}
		if x.From != 0 && !slices.ContainsFunc(l[:i], func(before impl.Source) bool { return before.Id == x.From }) {
			return false
		}
	}
	return len(l) <= 15
}

// trueRoots returns anew the root of each source of a valid list, by its Id.
func trueRoots(l []impl.Source) map[int]impl.Source {
	roots := map[int]impl.Source{}
	for _, x := range l {
		roots[x.Id] = x
		if x.From != 0 {
			roots[x.Id] = roots[x.From]
		}
	}
	return roots
}

// sampleSources are valid lists of up to fifteen sources.
func sampleSources() [][]impl.Source {
	chain := sourcesOf(speakers(0, 15)...)
	star := sourcesOf(0, 1, 1, 1, 1, 1, 1, 1, 1, 1, 1, 1, 1, 1, 1)
	alone := sourcesOf(make([]int, 15)...)
	for i := range alone {
		alone[i].Id = 85 + i
	}
	samples := [][]impl.Source{nil, {}, chain, star, alone, sourcesOf(0), sourcesOf(0, 1), sourcesOf(0, 0), sourcesOf(0, 1, 0, 3, 2, 4)}
	next := numbersFrom(26)
	for range 600 {
		l, id := []impl.Source{}, 0
		for range next(16) {
			id += 1 + next(6)
			x := impl.Source{Id: id, Weight: 1 + next(10), For: next(2) == 0}
			if len(l) > 0 && next(3) > 0 {
				x.From = l[next(len(l))].Id
			}
			l = append(l, x)
		}
		samples = append(samples, l)
	}
	return samples
}

// badSources are lists that are not valid, for each reason and for two at once.
func badSources() [][]impl.Source {
	lists := [][]impl.Source{make([]impl.Source, 1), make([]impl.Source, 15), make([]impl.Source, 16), sourcesOf(make([]int, 16)...), sourcesOf(speakers(0, 16)...), sourcesOf(make([]int, 40)...)}
	for place := range 3 {
		for _, spoil := range []func(x *impl.Source){
			func(x *impl.Source) { x.Id = 0 },
			func(x *impl.Source) { x.Id = -1 },
			func(x *impl.Source) { x.Id = 100 },
			func(x *impl.Source) { x.Id = math.MaxInt64 },
			func(x *impl.Source) { x.Id = math.MinInt64 },
			func(x *impl.Source) { x.Id = 1 + (place+1)%3 },
			func(x *impl.Source) { x.Id = 1 + (place+2)%3 },
			func(x *impl.Source) { x.Weight = 0 },
			func(x *impl.Source) { x.Weight = -1 },
			func(x *impl.Source) { x.Weight = 11 },
			func(x *impl.Source) { x.Weight = math.MaxInt64 },
			func(x *impl.Source) { x.Weight = math.MinInt64 },
			func(x *impl.Source) { x.From = x.Id },
			func(x *impl.Source) { x.From = 3 },
			func(x *impl.Source) { x.From = x.Id + 1 },
			func(x *impl.Source) { x.From = 50 },
			func(x *impl.Source) { x.From = -1 },
			func(x *impl.Source) { x.From = math.MinInt64 },
			func(x *impl.Source) { x.From = math.MaxInt64 },
			func(x *impl.Source) { x.Id = 0; x.Weight = 0 },
			func(x *impl.Source) { x.Weight = 11; x.From = x.Id },
		} {
			l := sourcesOf(0, 0, 0)
			spoil(&l[place])
			lists = append(lists, l)
		}
	}
	// sources that repeat each other, and ones out of order
	round := sourcesOf(2, 1)
	ring := sourcesOf(3, 1, 2)
	back := sourcesOf(0, 1)
	back[0], back[1] = back[1], back[0]
	wrong := sourcesOf(0, 0, 0)
	wrong[1].Id, wrong[2].Id = 3, 2
	return append(lists, round, ring, back, wrong, sourcesOf(1), sourcesOf(0, 2), sourcesOf(0, 3, 2), sourcesOf(2, 0))
}

// expectSources fails if what is said about valid sources is not so.
func expectSources(t *testing.T, l []impl.Source) {
	t.Helper()
	roots, balance, repeats := trueRoots(l), 0, map[int][]int{}
	for _, x := range l {
		switch {
		case x.From != 0:
			repeats[roots[x.Id].Id] = append(repeats[roots[x.Id].Id], x.Id)
		case x.For:
			balance += x.Weight
		default:
			balance -= x.Weight
		}
	}
	if !impl.AreSources(l) || impl.BalanceOf(l) != balance {
		t.Errorf("AreSources(%v) is %v, and BalanceOf %d, want %d", l, impl.AreSources(l), impl.BalanceOf(l), balance)
	}
	for _, id := range append(speakers(-2, 105), math.MinInt64, math.MaxInt64) {
		root, is := roots[id]
		if got := impl.RootOf(l, id); got != root.Id {
			t.Errorf("RootOf(%v, %d) is %d, want %d", l, id, got, root.Id)
		}
		if got := impl.RepeatsOf(l, id); !slices.Equal(got, repeats[id]) {
			t.Errorf("RepeatsOf(%v, %d) is %v, want %v", l, id, got, repeats[id])
		}
		twisted := is && slices.ContainsFunc(l, func(x impl.Source) bool { return x.Id == id && x.For != root.For })
		if got := impl.IsTwisted(l, id); got != twisted {
			t.Errorf("IsTwisted(%v, %d) is %v", l, id, got)
		}
	}
}

// expectNoSources fails if anything is said about sources that are not valid.
func expectNoSources(t *testing.T, l []impl.Source) {
	t.Helper()
	if impl.AreSources(l) || impl.BalanceOf(l) != 0 {
		t.Errorf("AreSources(%v) is %v, and BalanceOf %d", l, impl.AreSources(l), impl.BalanceOf(l))
	}
	for _, id := range []int{math.MinInt64, -1, 0, 1, 2, 3, 15, 16, 50, 99, 100, math.MaxInt64} {
		if impl.RootOf(l, id) != 0 || len(impl.RepeatsOf(l, id)) != 0 || impl.IsTwisted(l, id) {
			t.Errorf("of %v is RootOf %d the source %d, and RepeatsOf are %v", l, id, impl.RootOf(l, id), impl.RepeatsOf(l, id))
		}
	}
}

func TestAreSources(t *testing.T) {
	for _, l := range sampleSources() {
		if !impl.AreSources(l) || !trueSources(l) {
			t.Errorf("%v are no sources", l)
		}
	}
	for _, l := range badSources() {
		if impl.AreSources(l) || trueSources(l) {
			t.Errorf("%v are sources", l)
		}
	}
	for count := range 20 {
		if got := impl.AreSources(sourcesOf(make([]int, count)...)); got != (count <= 15) {
			t.Errorf("AreSources of %d sources is %v", count, got)
		}
	}
	for n := -3; n <= 103; n++ {
		if got := impl.AreSources([]impl.Source{{Id: n, Weight: 5}}); got != (n >= 1 && n <= 99) {
			t.Errorf("AreSources of the Id %d is %v", n, got)
		}
		if got := impl.AreSources([]impl.Source{{Id: 50, Weight: n}}); got != (n >= 1 && n <= 10) {
			t.Errorf("AreSources of the weight %d is %v", n, got)
		}
		if got := impl.AreSources([]impl.Source{{Id: 40, Weight: 1}, {Id: 50, Weight: 1, From: n}, {Id: 60, Weight: 1}}); got != (n == 0 || n == 40) {
			t.Errorf("AreSources of one from %d is %v", n, got)
		}
	}
}

func TestSmallSources(t *testing.T) {
	// all lists of up to three sources with Ids and Froms from 0 to 4
	allLists(speakers(0, 25), 3, func(kinds []int) {
		l := []impl.Source{}
		for i, kind := range kinds {
			l = append(l, impl.Source{Id: kind / 5, From: kind % 5, Weight: 3*i + 1, For: i == 1})
		}
		if trueSources(l) {
			expectSources(t, l)
		} else {
			expectNoSources(t, l)
		}
	})
}

func TestSampleSources(t *testing.T) {
	for _, l := range sampleSources() {
		expectSources(t, l)
	}
	for _, l := range badSources() {
		expectNoSources(t, l)
	}
}

func TestKnownSources(t *testing.T) {
	chain := sourcesOf(speakers(0, 15)...)
	if impl.RootOf(chain, 15) != 1 || impl.BalanceOf(chain) != 1 || !slices.Equal(impl.RepeatsOf(chain, 1), speakers(2, 14)) || len(impl.RepeatsOf(chain, 2)) != 0 {
		t.Errorf("in a chain the last one has the root %d, the balance is %d, and the first one is repeated by %v", impl.RootOf(chain, 15), impl.BalanceOf(chain), impl.RepeatsOf(chain, 1))
	}
	// against what it repeats, of which the root says what the one in between does not
	l := []impl.Source{{Id: 3, Weight: 4, For: false}, {Id: 5, From: 3, Weight: 9, For: true}, {Id: 8, From: 5, Weight: 9, For: false}, {Id: 9, From: 5, Weight: 2, For: true}, {Id: 99, Weight: 10, For: true}}
	for id, twisted := range map[int]bool{3: false, 5: true, 8: false, 9: true, 99: false, 4: false, 0: false} {
		if got := impl.IsTwisted(l, id); got != twisted {
			t.Errorf("IsTwisted(%v, %d) is %v", l, id, got)
		}
	}
	if impl.BalanceOf(l) != 6 || !slices.Equal(impl.RepeatsOf(l, 3), []int{5, 8, 9}) || impl.RootOf(l, 9) != 3 {
		t.Errorf("of %v is the balance %d, and %v repeat 3", l, impl.BalanceOf(l), impl.RepeatsOf(l, 3))
	}
	most := sourcesOf(make([]int, 15)...)
	for i := range most {
		most[i].Weight, most[i].For = 10, false
	}
	if impl.BalanceOf(most) != -150 || impl.BalanceOf(nil) != 0 || impl.BalanceOf([]impl.Source{}) != 0 {
		t.Errorf("BalanceOf is %d and %d", impl.BalanceOf(most), impl.BalanceOf(nil))
	}
}

func TestAddSource(t *testing.T) {
	adds := []impl.Source{{}, {Id: 99, Weight: 10, For: true}, {Id: 99, Weight: 1}, {Id: 99, From: 1, Weight: 3}, {Id: 99, From: 99, Weight: 3}, {Id: 99, From: 98, Weight: 3}, {Id: 100, Weight: 3}, {Id: 99, Weight: 11}, {Id: 99, Weight: 0}, {Id: 99, From: -1, Weight: 3}, {Id: 1, Weight: 1}, {Id: 16, Weight: 7, For: true}, {Id: 16, From: 15, Weight: 7}, {Id: 3, From: 2, Weight: 2}, {Id: 0, Weight: 1}, {Id: 100, From: 100, Weight: 11}}
	for _, l := range append(sampleSources(), badSources()...) {
		for _, x := range adds {
			want := append(slices.Clone(l), x)
			fine := trueSources(want)
			if !fine {
				want = l
			}
			if got, ok := impl.AddSource(l, x); ok != fine || !slices.Equal(got, want) {
				t.Errorf("AddSource(%v, %v) is %v, %v, want %v, %v", l, x, got, ok, want, fine)
			}
		}
	}
}

func TestWhateverOnlyRepeatsAddsNoWeight(t *testing.T) {
	for _, l := range sampleSources() {
		balance := impl.BalanceOf(l)
		for _, from := range l {
			for _, x := range []impl.Source{{Id: 99, From: from.Id, Weight: 10, For: true}, {Id: 99, From: from.Id, Weight: 7, For: false}} {
				added, ok := impl.AddSource(l, x)
				if want := len(l) < 15 && l[len(l)-1].Id < 99; ok != want || impl.BalanceOf(added) != balance {
					t.Errorf("with %v the balance of %v is %d, not %d", x, l, impl.BalanceOf(added), balance)
				}
				if ok && impl.RootOf(added, 99) != impl.RootOf(l, from.Id) {
					t.Errorf("the root of %v in %v is %d", x, l, impl.RootOf(added, 99))
				}
			}
		}
		roots := slices.DeleteFunc(slices.Clone(l), func(x impl.Source) bool { return x.From != 0 })
		if impl.BalanceOf(roots) != balance {
			t.Errorf("without those that repeat others the balance of %v is %d, not %d", l, impl.BalanceOf(roots), balance)
		}
		if added, ok := impl.AddSource(l, impl.Source{Id: 99, Weight: 6}); ok && impl.BalanceOf(added) != balance-6 {
			t.Errorf("with one against it the balance of %v is %d, not %d", l, impl.BalanceOf(added), balance-6)
		}
	}
}

func TestSourceFunctionsShareNoMemory(t *testing.T) {
	spare, spoilt := impl.Source{Id: -9, From: -9}, impl.Source{Id: -6, From: -6}
	for _, l := range append(sampleSources(), badSources()...) {
		roomy, isSame := withSpare(l, spare)
		for _, x := range []impl.Source{{Id: 99, Weight: 5}, {Id: 1, Weight: 5}, {Id: 16, Weight: 5}} {
			expectFresh(t, spoilt, func() []impl.Source { added, _ := impl.AddSource(roomy, x); return added })
		}
		expectFresh(t, -6, func() []int { return impl.RepeatsOf(roomy, 1) })
		impl.AreSources(roomy)
		impl.RootOf(roomy, 2)
		impl.BalanceOf(roomy)
		impl.IsTwisted(roomy, 2)
		if !isSame() {
			t.Errorf("%v became %v", l, roomy)
		}
	}
}
