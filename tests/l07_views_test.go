package tests

import (
	"math"
	"slices"
	"testing"

	"loop.example/g03009/impl"
)

// views are all positions of a graph.
type views struct {
	complete, preferred, stable [][]int
}

func viewsOf(g impl.Graph) views {
	return views{impl.AllComplete(g), impl.Preferred(g), impl.StableSets(g)}
}

func sameViews(a views, b views) bool {
	return sameLists(a.complete, b.complete) && sameLists(a.preferred, b.preferred) && sameLists(a.stable, b.stable)
}

// trueViews says anew which positions a valid graph has: it tries all sets, and sorts what it finds.
func trueViews(g impl.Graph) views {
	attacks := tableOf(g)
	complete := [][]int{}
	for mask := range 1 << g.N {
		set := maskedSet(mask)
		if attacks.free(set) && slices.Equal(attacks.defendedBy(g.N, set), set) {
			complete = append(complete, set)
		}
	}
	slices.SortFunc(complete, slices.Compare)
	isGreatest := func(set []int) bool {
		return !slices.ContainsFunc(complete, func(other []int) bool {
			return len(other) > len(set) && containsAll(other, set)
		})
	}
	isStable := func(set []int) bool { return attacks.stable(g.N, set) }
	return views{complete, those(complete, isGreatest), those(complete, isStable)}
}

func those(l [][]int, wanted func([]int) bool) [][]int {
	found := [][]int{}
	for _, x := range l {
		if wanted(x) {
			found = append(found, x)
		}
	}
	return found
}

// expectViews fails if the graph does not have these positions, and the answers about claims that follow from them.
func expectViews(t *testing.T, g impl.Graph, want views) {
	t.Helper()
	if got := viewsOf(g); !sameViews(got, want) {
		t.Errorf("%v has %v, want %v", g, got, want)
	}
	for _, c := range nearClaims(g) {
		with := len(those(want.preferred, func(set []int) bool { return slices.Contains(set, c) }))
		if got := impl.IsCredible(g, c); got != (with > 0) {
			t.Errorf("IsCredible(%v, %d) is %v", g, c, got)
		}
		if got := impl.IsCertain(g, c); got != (with > 0 && with == len(want.preferred)) {
			t.Errorf("IsCertain(%v, %d) is %v", g, c, got)
		}
	}
}

func TestViewsOfKnownGraphs(t *testing.T) {
	none := [][]int{{}}
	cases := []struct {
		g    impl.Graph
		want views
	}{
		{exampleGraph(), views{[][]int{{}, {0}, {1, 3}}, [][]int{{0}, {1, 3}}, [][]int{{1, 3}}}},
		{graphOf(1), views{[][]int{{0}}, [][]int{{0}}, [][]int{{0}}}},
		{graphOf(1, [2]int{0, 0}), views{none, none, nil}},
		{graphOf(2, [2]int{0, 1}), views{[][]int{{0}}, [][]int{{0}}, [][]int{{0}}}},
		{graphOf(2, [2]int{0, 1}, [2]int{1, 0}), views{[][]int{{}, {0}, {1}}, [][]int{{0}, {1}}, [][]int{{0}, {1}}}},
		{graphOf(3, [2]int{0, 1}, [2]int{1, 2}, [2]int{2, 0}), views{none, none, nil}},
		// 0 and 1 quarrel and both attack 2, which attacks 3: whoever is right, 3 stands
		{
			graphOf(4, [2]int{0, 1}, [2]int{0, 2}, [2]int{1, 0}, [2]int{1, 2}, [2]int{2, 3}),
			views{[][]int{{}, {0, 3}, {1, 3}}, [][]int{{0, 3}, {1, 3}}, [][]int{{0, 3}, {1, 3}}},
		},
		// nobody attacks 1, so it is in each position, and 0 comes before it in their order
		{
			graphOf(3, [2]int{0, 2}, [2]int{2, 0}),
			views{[][]int{{0, 1}, {1}, {1, 2}}, [][]int{{0, 1}, {1, 2}}, [][]int{{0, 1}, {1, 2}}},
		},
		{graphOf(10), views{[][]int{{0, 1, 2, 3, 4, 5, 6, 7, 8, 9}}, [][]int{{0, 1, 2, 3, 4, 5, 6, 7, 8, 9}}, [][]int{{0, 1, 2, 3, 4, 5, 6, 7, 8, 9}}}},
	}
	for _, c := range cases {
		expectViews(t, c.g, c.want)
	}
}

func TestViewsOfSampleGraphs(t *testing.T) {
	for _, g := range sampleGraphs() {
		expectViews(t, g, trueViews(g))
	}
}

func TestViewsOfGraphsWithoutClaims(t *testing.T) {
	for _, g := range []impl.Graph{{}, {N: 0, Attacks: [][]int{}}} {
		// To hold nothing is a position, but there is no claim in it.
		none := [][]int{{}}
		expectViews(t, g, views{none, none, none})
	}
}

func TestViewsOfFiveQuarrels(t *testing.T) {
	g := impl.Graph{N: 10}
	for c := range 10 {
		g.Attacks = append(g.Attacks, []int{c, c ^ 1})
	}
	got := viewsOf(g)
	if len(got.complete) != 243 || len(got.preferred) != 32 || len(got.stable) != 32 {
		t.Errorf("there are %d, %d and %d positions", len(got.complete), len(got.preferred), len(got.stable))
	}
	for _, l := range [][][]int{got.complete, got.preferred, got.stable} {
		if !slices.IsSortedFunc(l, slices.Compare) {
			t.Errorf("%v is not in order", l)
		}
	}
	expectViews(t, g, trueViews(g))
}

func TestWhatStandsInAnyCaseIsInEveryPosition(t *testing.T) {
	for _, g := range sampleGraphs() {
		grounded, got := impl.Grounded(g), viewsOf(g)
		for _, set := range slices.Concat(got.complete, got.preferred, got.stable) {
			if !containsAll(set, grounded) {
				t.Errorf("in %v, %v stands in any case, but %v is a position", g, grounded, set)
			}
		}
		if len(got.complete) == 0 || len(got.preferred) == 0 {
			t.Errorf("%v has no positions", g)
		}
		for _, c := range grounded {
			if !impl.IsCertain(g, c) || !impl.IsCredible(g, c) {
				t.Errorf("in %v, %d stands in any case, but it is not certain", g, c)
			}
		}
		// It is a position itself, so that nothing else is in all of them.
		if in := impl.InAll(got.complete); !slices.Equal(in, grounded) {
			t.Errorf("in %v, %v is in all positions, and %v stands in any case", g, in, grounded)
		}
	}
}

func TestViewsOfGraphsThatAreNotValid(t *testing.T) {
	for _, g := range badGraphs() {
		expectViews(t, g, views{})
	}
}

func TestInAll(t *testing.T) {
	cases := []struct {
		sets [][]int
		want []int
	}{
		{nil, nil},
		{[][]int{}, nil},
		{[][]int{{}}, nil},
		{[][]int{nil, nil}, nil},
		{[][]int{{2}}, []int{2}},
		{[][]int{{3, 1, 2}}, []int{3, 1, 2}},
		{[][]int{{1, 2}, {}}, nil},
		{[][]int{{}, {1, 2}}, nil},
		{[][]int{{1, 2}, nil, {1, 2}}, nil},
		{[][]int{{1, 2}, {3, 4}}, nil},
		{[][]int{{1, 2}, {2, 3}, {3, 1}}, nil},
		{[][]int{{5, 1, 3}, {3, 5}}, []int{5, 3}},
		{[][]int{{3, 5}, {5, 1, 3}}, []int{3, 5}},
		{[][]int{{1, 2, 3, 4}, {4, 3, 2}, {2, 4, 9}}, []int{2, 4}},
		{[][]int{{1, 2, 3}, {1, 2}, {1, 2, 3}}, []int{1, 2}},
		{[][]int{{1, 2}, {2, 2, 2}}, []int{2}},
		{[][]int{{-1, 0, 64, math.MinInt64, math.MaxInt64}, {math.MaxInt64, math.MinInt64, 64, -1}}, []int{-1, 64, math.MinInt64, math.MaxInt64}},
		{[][]int{{0}, {1 << 32}}, nil},
		{[][]int{{100, 200}, {200, 100}, {200}}, []int{200}},
	}
	for _, c := range cases {
		if got := impl.InAll(c.sets); !slices.Equal(got, c.want) {
			t.Errorf("InAll(%v) is %v, want %v", c.sets, got, c.want)
		}
	}
}

func TestViewsShareNoMemory(t *testing.T) {
	for _, g := range append(sampleGraphs(), badGraphs()...) {
		roomy, expectSame := spaciousGraph(g)
		want := viewsOf(g)
		impl.IsCredible(roomy, 1)
		impl.IsCertain(roomy, 1)
		for _, spoilt := range [][][]int{impl.AllComplete(roomy), impl.Preferred(roomy), impl.StableSets(roomy)} {
			expectListsApart(t, spoilt)
		}
		if got := viewsOf(roomy); !sameViews(got, want) {
			t.Errorf("%v has %v, and then %v", g, want, got)
		}
		expectSame(t)
	}
}

// expectListsApart fails if a change of one of the lists changes another one.
func expectListsApart(t *testing.T, l [][]int) {
	t.Helper()
	want := [][]int{}
	for _, x := range l {
		want = append(want, slices.Clone(x))
	}
	for i := range l {
		spoilInts(l[i])
		want[i] = slices.Repeat([]int{-66}, len(want[i]))
		if !sameLists(l, want) {
			t.Errorf("a change of the list %d gives %v, want %v", i, l, want)
		}
	}
}

func TestInAllLeavesItsArgumentsAlone(t *testing.T) {
	for _, first := range [][]int{{}, {1}, {1, 2, 3}, {4, 3, 2, 1}} {
		under := append(slices.Clone(first), -9, -9, -9)
		other := append([]int{2, 3, 1}, -9)
		sets := append(make([][]int, 0, 4), under[:len(first)], other[:3])
		one, two := impl.InAll(sets), impl.InAll(sets)
		want := slices.Clone(two)
		spoilInts(one)
		if !slices.Equal(two, want) {
			t.Errorf("two results of InAll(%v) share memory", sets)
		}
		spoilInts(impl.InAll(sets[:1]))
		if !slices.Equal(under, append(slices.Clone(first), -9, -9, -9)) || !slices.Equal(other, []int{2, 3, 1, -9}) {
			t.Errorf("the sets became %v and %v", under, other)
		}
		if full := sets[:4]; !slices.Equal(full[1], []int{2, 3, 1}) || full[2] != nil || full[3] != nil {
			t.Errorf("the list of the sets became %v", full)
		}
	}
}
