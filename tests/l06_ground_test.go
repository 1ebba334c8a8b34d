package tests

import (
	"slices"
	"testing"

	"loop.example/g03009/impl"
)

// groundedRounds says anew in which round each of the claims comes in, with -1 for never: in each round those whose
// attackers have all been attacked by what came in before.
func groundedRounds(g impl.Graph) []int {
	attacks := tableOf(g)
	rounds := slices.Repeat([]int{-1}, g.N)
	before := []int{}
	for round := 1; round <= g.N; round++ {
		for _, c := range attacks.defendedBy(g.N, before) {
			if rounds[c] == -1 {
				rounds[c] = round
			}
		}
		before = placesOf(rounds, func(r int) bool { return r != -1 })
	}
	return rounds
}

func placesOf[T any](l []T, has func(T) bool) []int {
	places := []int{}
	for i, x := range l {
		if has(x) {
			places = append(places, i)
		}
	}
	return places
}

// expectGround fails if the graph does not have these rounds, and the set, labels and open claims that follow from them.
func expectGround(t *testing.T, g impl.Graph, rounds []int) {
	t.Helper()
	grounded := placesOf(rounds, func(r int) bool { return r != -1 })
	labels, open := []string{}, []int{}
	for c := range g.N {
		switch {
		case rounds[c] != -1:
			labels = append(labels, "in")
		case tableOf(g).hits(grounded, c):
			labels = append(labels, "out")
		default:
			labels = append(labels, "open")
			open = append(open, c)
		}
	}
	if got := impl.Grounded(g); !slices.Equal(got, grounded) {
		t.Errorf("Grounded(%v) is %v, want %v", g, got, grounded)
	}
	for c, round := range rounds {
		if got := impl.RoundOf(g, c); got != round {
			t.Errorf("RoundOf(%v, %d) is %d, want %d", g, c, got, round)
		}
	}
	if got := impl.Labels(g); !slices.Equal(got, labels) {
		t.Errorf("Labels(%v) is %v, want %v", g, got, labels)
	}
	if got := impl.OpenClaims(g); !slices.Equal(got, open) {
		t.Errorf("OpenClaims(%v) is %v, want %v", g, got, open)
	}
}

func TestGroundOfKnownGraphs(t *testing.T) {
	cases := []struct {
		g      impl.Graph
		rounds []int
	}{
		{graphOf(0), nil},
		{graphOf(1), []int{1}},
		{graphOf(1, [2]int{0, 0}), []int{-1}},
		{graphOf(2, [2]int{0, 1}), []int{1, -1}},
		{graphOf(2, [2]int{0, 1}, [2]int{1, 0}), []int{-1, -1}},
		{graphOf(2, [2]int{0, 1}, [2]int{1, 1}), []int{1, -1}},
		{graphOf(2, [2]int{0, 0}, [2]int{0, 1}), []int{-1, -1}},
		{graphOf(3, [2]int{0, 1}, [2]int{1, 2}), []int{1, -1, 2}},
		{exampleGraph(), []int{-1, -1, -1, -1, -1}},
		{graphOf(6, [2]int{0, 1}, [2]int{1, 2}, [2]int{2, 3}, [2]int{4, 4}, [2]int{4, 5}), []int{1, -1, 2, -1, -1, -1}},
		{graphOf(10), []int{1, 1, 1, 1, 1, 1, 1, 1, 1, 1}},
		// 4 needs 2 and 5, so it comes in after the later one of them
		{graphOf(8, [2]int{0, 1}, [2]int{1, 2}, [2]int{2, 3}, [2]int{3, 4}, [2]int{5, 6}, [2]int{6, 4}), []int{1, -1, 2, -1, 3, 1, -1, 1}},
	}
	for _, c := range cases {
		expectGround(t, c.g, c.rounds)
	}
}

func TestGroundOfTheLongestChains(t *testing.T) {
	up, down := impl.Graph{N: 10}, impl.Graph{N: 10}
	for c := range 9 {
		up.Attacks = append(up.Attacks, []int{c, c + 1})
		down.Attacks = append(down.Attacks, []int{c + 1, c})
	}
	expectGround(t, up, []int{1, -1, 2, -1, 3, -1, 4, -1, 5, -1})
	expectGround(t, down, []int{-1, 5, -1, 4, -1, 3, -1, 2, -1, 1})
}

func TestRingsOfThreeClaims(t *testing.T) {
	ring := [][2]int{{0, 1}, {1, 2}, {2, 0}}
	backwards := [][2]int{{0, 2}, {1, 0}, {2, 1}}
	for _, pairs := range [][][2]int{ring, backwards} {
		g := graphOf(3, pairs...)
		expectGround(t, g, []int{-1, -1, -1})
		for mask := range 8 {
			// A claim of the ring attacks the only one that defends it, so that nothing but no claims is complete.
			if got := impl.IsComplete(g, maskedSet(mask)); got != (mask == 0) {
				t.Errorf("in the ring %v, IsComplete of %v is %v", pairs, maskedSet(mask), got)
			}
		}
		if !impl.IsComplete(g, nil) {
			t.Errorf("in the ring %v, no claims are not complete", pairs)
		}
	}
	// One that nobody attacks breaks the ring at the place where it attacks.
	expectGround(t, graphOf(4, append(slices.Clone(ring), [2]int{3, 0})...), []int{-1, 2, -1, 1})
	expectGround(t, graphOf(4, append(slices.Clone(ring), [2]int{3, 1})...), []int{-1, -1, 2, 1})
	expectGround(t, graphOf(4, append(slices.Clone(ring), [2]int{3, 2})...), []int{2, -1, -1, 1})
	// One that attacks itself, or that the ring attacks, breaks nothing.
	expectGround(t, graphOf(4, append(slices.Clone(ring), [2]int{3, 0}, [2]int{3, 3})...), []int{-1, -1, -1, -1})
	expectGround(t, graphOf(4, append(slices.Clone(ring[:2]), [2]int{2, 0}, [2]int{2, 3})...), []int{-1, -1, -1, -1})
	// Two rings, of which the first one is attacked, and a claim apart.
	g := graphOf(8, [2]int{0, 1}, [2]int{1, 2}, [2]int{2, 0}, [2]int{3, 4}, [2]int{4, 5}, [2]int{5, 3}, [2]int{6, 1})
	expectGround(t, g, []int{-1, -1, 2, -1, -1, -1, 1, 1})
	if !slices.Equal(impl.OpenClaims(g), []int{3, 4, 5}) {
		t.Errorf("the open claims are %v", impl.OpenClaims(g))
	}
}

func TestGroundOfSampleGraphs(t *testing.T) {
	for _, g := range sampleGraphs() {
		expectGround(t, g, groundedRounds(g))
	}
}

func TestWhatStandsInAnyCaseIsComplete(t *testing.T) {
	for _, g := range sampleGraphs() {
		attacks := tableOf(g)
		grounded := impl.Grounded(g)
		if !impl.IsComplete(g, grounded) || !attacks.free(grounded) || !slices.Equal(attacks.defendedBy(g.N, grounded), grounded) {
			t.Errorf("in %v, Grounded is %v, which is not complete", g, grounded)
		}
		for mask := range 1 << g.N {
			set := maskedSet(mask)
			want := attacks.free(set) && slices.Equal(attacks.defendedBy(g.N, set), set)
			if got := impl.IsComplete(g, set); got != want {
				t.Fatalf("IsComplete(%v, %v) is %v", g, set, got)
			}
			if want && !containsAll(set, grounded) {
				t.Fatalf("in %v, %v stands in any case, but %v is complete", g, grounded, set)
			}
		}
	}
}

func TestIsComplete(t *testing.T) {
	chain := graphOf(6, [2]int{0, 1}, [2]int{1, 2}, [2]int{2, 3}, [2]int{4, 4}, [2]int{4, 5})
	alone := graphOf(1, [2]int{0, 0})
	cases := []struct {
		g    impl.Graph
		set  []int
		want bool
	}{
		{impl.Graph{}, nil, true},
		{impl.Graph{}, []int{}, true},
		{graphOf(1), nil, false},
		{graphOf(1), []int{0}, true},
		{alone, nil, true},
		{alone, []int{0}, false}, // it is just what it defends, but it has a quarrel
		{chain, []int{0, 2}, true},
		{chain, []int{0}, false},
		{chain, nil, false},
		{chain, []int{2}, false},
		{chain, []int{0, 2, 4}, false},
		{chain, []int{2, 0}, false},
		{chain, []int{0, 2, 2}, false},
		{exampleGraph(), nil, true},
		{exampleGraph(), []int{0}, true},
		{exampleGraph(), []int{1}, false},
		{exampleGraph(), []int{1, 3}, true},
		{exampleGraph(), []int{0, 1, 2, 3, 4}, false},
	}
	for _, c := range cases {
		if got := impl.IsComplete(c.g, c.set); got != c.want {
			t.Errorf("IsComplete(%v, %v) is %v", c.g, c.set, got)
		}
	}
	for _, g := range sampleGraphs() {
		grounded := impl.Grounded(g)
		for _, set := range badSets(g.N) {
			// A number that is no claim must not be passed over, so that the rest counts as a set.
			if impl.IsComplete(g, set) || impl.IsComplete(g, append(slices.Clone(grounded), set...)) {
				t.Errorf("in %v, %v is complete, or with %v before it", g, set, grounded)
			}
		}
	}
}

func TestRoundOfWhatIsNoClaim(t *testing.T) {
	for _, g := range sampleGraphs() {
		for _, c := range nearClaims(g) {
			if got := impl.RoundOf(g, c); (c < 0 || c >= g.N) && got != -1 {
				t.Errorf("RoundOf(%v, %d) is %d", g, c, got)
			}
		}
	}
}

func TestGroundOfGraphsThatAreNotValid(t *testing.T) {
	for _, g := range badGraphs() {
		if len(impl.Grounded(g)) != 0 || len(impl.Labels(g)) != 0 || len(impl.OpenClaims(g)) != 0 {
			t.Errorf("in %v, there are claims with labels", g)
		}
		for _, c := range nearClaims(g) {
			if got := impl.RoundOf(g, c); got != -1 {
				t.Errorf("RoundOf(%v, %d) is %d", g, c, got)
			}
		}
		for _, set := range slices.Concat([][]int{nil, {}, {0}, {1}, {0, 1}}, badSets(2)) {
			if impl.IsComplete(g, set) {
				t.Errorf("IsComplete(%v, %v) is true", g, set)
			}
		}
	}
}

func spoilTexts(l []string) {
	l = l[:cap(l)]
	for i := range l {
		l[i] = "spoilt"
	}
}

func TestGroundFunctionsLeaveTheirArgumentsAlone(t *testing.T) {
	for _, g := range append(sampleGraphs(), badGraphs()...) {
		roomy, expectSame := spaciousGraph(g)
		under := []int{0, 1, -9, -9}
		impl.IsComplete(roomy, under[:2])
		impl.RoundOf(roomy, 1)
		grounded, labels, open := impl.Grounded(roomy), impl.Labels(roomy), impl.OpenClaims(roomy)
		wantGrounded, wantLabels, wantOpen := slices.Clone(grounded), slices.Clone(labels), slices.Clone(open)
		spoilInts(impl.Grounded(roomy))
		spoilTexts(impl.Labels(roomy))
		spoilInts(impl.OpenClaims(roomy))
		if !slices.Equal(grounded, wantGrounded) || !slices.Equal(labels, wantLabels) || !slices.Equal(open, wantOpen) {
			t.Errorf("in %v, two results share memory", g)
		}
		if !slices.Equal(under, []int{0, 1, -9, -9}) {
			t.Errorf("the set became %v", under)
		}
		expectSame(t)
	}
}
