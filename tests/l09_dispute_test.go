package tests

import (
	"math"
	"slices"
	"testing"

	"loop.example/g03009/impl"
)

// orders are all orders of up to four claims, and some of more.
func orders(n int) [][]int {
	if n > 4 {
		identity := maskedSet(1<<n - 1)
		l := [][]int{identity, slices.Clone(identity), append(slices.Clone(identity[1:]), 0), slices.Clone(identity)}
		slices.Reverse(l[1])
		for c := range n - 1 {
			l[3][c], l[3][c+1] = l[3][c+1], l[3][c]
			l = append(l, slices.Clone(l[3]))
		}
		return l
	}
	if n == 0 {
		return [][]int{{}}
	}
	l := [][]int{}
	for _, less := range orders(n - 1) {
		for place := range n {
			l = append(l, slices.Insert(slices.Clone(less), place, n-1))
		}
	}
	return l
}

// namedIn returns a list of claims by their new names, in ascending order.
func namedIn(to []int, set []int) []int {
	l := []int{}
	for _, c := range set {
		l = append(l, to[c])
	}
	slices.Sort(l)
	return l
}

func allNamedIn(to []int, sets [][]int) [][]int {
	l := [][]int{}
	for _, set := range sets {
		l = append(l, namedIn(to, set))
	}
	slices.SortFunc(l, slices.Compare)
	return l
}

// changedGraph says anew what becomes of a graph: its pairs by their new names, without those that have none.
func changedGraph(g impl.Graph, n int, name func(int) (int, bool)) impl.Graph {
	changed := impl.Graph{N: n}
	for _, p := range g.Attacks {
		a, aStays := name(p[0])
		b, bStays := name(p[1])
		if aStays && bStays {
			changed.Attacks = append(changed.Attacks, []int{a, b})
		}
	}
	slices.SortFunc(changed.Attacks, slices.Compare)
	return changed
}

// expectGraph fails if a function did not return this graph and this boolean.
func expectGraph(t *testing.T, what string, got impl.Graph, ok bool, want impl.Graph, fine bool) {
	t.Helper()
	if ok != fine || !sameGraph(got, want) {
		t.Errorf("%s is %v, %v, want %v, %v", what, got, ok, want, fine)
	}
}

func TestWithClaimOfSampleGraphs(t *testing.T) {
	for _, g := range sampleGraphs() {
		if g.N == 10 {
			continue
		}
		for mask := range 1 << g.N {
			attacks := maskedSet(mask)
			want := cloneGraph(g)
			want.N++
			for _, b := range attacks {
				want.Attacks = append(want.Attacks, []int{g.N, b})
			}
			got, ok := impl.WithClaim(g, attacks)
			expectGraph(t, "WithClaim", got, ok, want, true)
			if !impl.IsGraph(got) || !impl.IsPartOf(g, got) || impl.IsPartOf(got, g) {
				t.Errorf("%v became %v", g, got)
			}
			back, ok := impl.Without(got, g.N)
			expectGraph(t, "Without of what WithClaim added", back, ok, g, true)
		}
	}
}

func TestWithClaimUpToTheLimit(t *testing.T) {
	g := impl.Graph{}
	for n := range 10 {
		grown, ok := impl.WithClaim(g, maskedSet(1<<n-1))
		if !ok || grown.N != n+1 || len(grown.Attacks) != n*(n+1)/2 || !impl.IsGraph(grown) {
			t.Fatalf("WithClaim of %v is %v, %v", g, grown, ok)
		}
		g = grown
	}
	for _, attacks := range slices.Concat([][]int{nil, {}, {0}, {9}, {0, 9}}, badSets(10)) {
		got, ok := impl.WithClaim(g, attacks)
		expectGraph(t, "WithClaim at the limit", got, ok, g, false)
		got, ok = impl.WithClaim(graphOf(10), attacks)
		expectGraph(t, "WithClaim at the limit", got, ok, graphOf(10), false)
	}
}

func TestWithClaimRejectsWhatIsNotValid(t *testing.T) {
	for _, g := range sampleGraphs() {
		// the new claim cannot attack itself, as it is not less than N
		for _, attacks := range badSets(g.N) {
			got, ok := impl.WithClaim(g, attacks)
			expectGraph(t, "WithClaim with no set", got, ok, g, false)
		}
	}
	for _, g := range badGraphs() {
		for _, attacks := range slices.Concat([][]int{nil, {}, {0}, {1}, {0, 1}}, badSets(2)) {
			got, ok := impl.WithClaim(g, attacks)
			expectGraph(t, "WithClaim of no graph", got, ok, g, false)
		}
	}
}

func TestWithoutOfTheExample(t *testing.T) {
	g := exampleGraph()
	wants := []impl.Graph{
		graphOf(4, [2]int{0, 1}, [2]int{1, 2}, [2]int{2, 3}, [2]int{3, 1}),
		graphOf(4, [2]int{1, 2}, [2]int{2, 3}, [2]int{3, 1}),
		graphOf(4, [2]int{0, 1}, [2]int{1, 0}, [2]int{2, 3}),
		graphOf(4, [2]int{0, 1}, [2]int{1, 0}, [2]int{1, 2}, [2]int{3, 2}),
		graphOf(4, [2]int{0, 1}, [2]int{1, 0}, [2]int{1, 2}, [2]int{2, 3}),
	}
	for c, want := range wants {
		got, ok := impl.Without(g, c)
		expectGraph(t, "Without "+impl.FormatInt(c), got, ok, want, true)
	}
}

func TestWithoutOfSampleGraphs(t *testing.T) {
	for _, g := range sampleGraphs() {
		for _, claim := range nearClaims(g) {
			want, fine := cloneGraph(g), claim >= 0 && claim < g.N
			if fine {
				want = changedGraph(g, g.N-1, func(c int) (int, bool) {
					if c > claim {
						return c - 1, true
					}
					return c, c != claim
				})
			}
			got, ok := impl.Without(g, claim)
			expectGraph(t, "Without "+impl.FormatInt(claim), got, ok, want, fine)
			if !impl.IsGraph(got) {
				t.Errorf("%v became %v", g, got)
			}
		}
	}
	for _, g := range badGraphs() {
		for _, claim := range nearClaims(g) {
			got, ok := impl.Without(g, claim)
			expectGraph(t, "Without of no graph", got, ok, g, false)
		}
	}
}

func TestWithoutUntilNothingIsLeft(t *testing.T) {
	for _, g := range sampleGraphs() {
		for left := g.N; left > 0; left-- {
			less, ok := impl.Without(g, left/2)
			if !ok || less.N != left-1 || impl.CountLoops(less) > impl.CountLoops(g) {
				t.Fatalf("Without(%v, %d) is %v, %v", g, left/2, less, ok)
			}
			g = less
		}
		got, ok := impl.Without(g, 0)
		expectGraph(t, "Without of no claims", got, ok, impl.Graph{}, false)
	}
}

func TestRenamedOfSampleGraphs(t *testing.T) {
	for _, g := range sampleGraphs() {
		for _, to := range orders(g.N) {
			want := changedGraph(g, g.N, func(c int) (int, bool) { return to[c], true })
			got, ok := impl.Renamed(g, to)
			expectGraph(t, "Renamed", got, ok, want, true)
			from := make([]int, g.N)
			for c, name := range to {
				from[name] = c
			}
			back, ok := impl.Renamed(got, from)
			expectGraph(t, "Renamed there and back", back, ok, g, true)
		}
	}
}

func TestRenamedNeedsEachClaimOnce(t *testing.T) {
	for _, g := range sampleGraphs() {
		all := maskedSet(1<<g.N - 1)
		bad := [][]int{append(slices.Clone(all), g.N), append(slices.Clone(all), 0), append(slices.Clone(all), -1)}
		for c := range g.N {
			bad = append(bad, slices.Delete(slices.Clone(all), c, c+1))
			for _, other := range []int{-1, g.N, g.N + 1, c + 16, c + 64, c - 64, math.MinInt64, math.MaxInt64, (c + 1) % g.N} {
				if other != c {
					twice := slices.Clone(all)
					twice[c] = other
					bad = append(bad, twice)
				}
			}
		}
		for _, to := range bad {
			got, ok := impl.Renamed(g, to)
			expectGraph(t, "Renamed by "+impl.FormatInt(len(to))+" names", got, ok, g, false)
		}
	}
	for _, to := range [][]int{nil, {}} {
		got, ok := impl.Renamed(impl.Graph{}, to)
		expectGraph(t, "Renamed of no claims", got, ok, impl.Graph{}, true)
	}
	for _, g := range badGraphs() {
		for _, to := range [][]int{nil, {}, {0}, {0, 1}, {1, 0}, {0, 0}, {0, 1, 2}, maskedSet(1023), append(maskedSet(1023), 10)} {
			got, ok := impl.Renamed(g, to)
			expectGraph(t, "Renamed of no graph", got, ok, g, false)
		}
	}
}

func TestNamesDoNotMatter(t *testing.T) {
	for _, g := range sampleGraphs() {
		for _, to := range orders(g.N) {
			renamed, ok := impl.Renamed(g, to)
			if !ok {
				t.Fatalf("Renamed(%v, %v) is false", g, to)
			}
			expectSameSets(t, g, renamed, to)
			expectSameClaims(t, g, renamed, to)
		}
	}
}

// expectSameSets fails if the sets of a graph are not those of the renamed one.
func expectSameSets(t *testing.T, g impl.Graph, renamed impl.Graph, to []int) {
	t.Helper()
	if !slices.Equal(impl.Grounded(renamed), namedIn(to, impl.Grounded(g))) || !slices.Equal(impl.OpenClaims(renamed), namedIn(to, impl.OpenClaims(g))) {
		t.Errorf("what stands in %v is not what stands in %v", g, renamed)
	}
	was, is := viewsOf(g), viewsOf(renamed)
	if !sameViews(is, views{allNamedIn(to, was.complete), allNamedIn(to, was.preferred), allNamedIn(to, was.stable)}) {
		t.Errorf("%v has %v, and %v has %v", g, was, renamed, is)
	}
	if impl.CountLoops(g) != impl.CountLoops(renamed) || impl.LongestGame(g) != impl.LongestGame(renamed) || len(g.Attacks) != len(renamed.Attacks) {
		t.Errorf("the numbers of %v are not those of %v", g, renamed)
	}
}

// expectSameClaims fails if a claim of a graph is not what it is in the renamed one.
func expectSameClaims(t *testing.T, g impl.Graph, renamed impl.Graph, to []int) {
	t.Helper()
	labels, names := impl.Labels(g), impl.Labels(renamed)
	for c, name := range to {
		if labels[c] != names[name] || impl.RoundOf(g, c) != impl.RoundOf(renamed, name) {
			t.Errorf("%d in %v is not %d in %v", c, g, name, renamed)
		}
		if impl.CanWin(g, c) != impl.CanWin(renamed, name) || impl.IsCredible(g, c) != impl.IsCredible(renamed, name) || impl.IsCertain(g, c) != impl.IsCertain(renamed, name) {
			t.Errorf("the game about %d in %v is not that about %d in %v", c, g, name, renamed)
		}
		if !slices.Equal(namedIn(to, impl.AttackersOf(g, c)), impl.AttackersOf(renamed, name)) || !slices.Equal(namedIn(to, impl.VictimsOf(g, c)), impl.VictimsOf(renamed, name)) {
			t.Errorf("the attacks of %d in %v are not those of %d in %v", c, g, name, renamed)
		}
	}
}

// truePart says anew whether a valid graph is a part of another one.
func truePart(a impl.Graph, b impl.Graph) bool {
	inside := [][]int{}
	for _, p := range b.Attacks {
		if p[0] < a.N && p[1] < a.N {
			inside = append(inside, p)
		}
	}
	return a.N <= b.N && sameLists(a.Attacks, inside)
}

func TestIsPartOfSampleGraphs(t *testing.T) {
	graphs := sampleGraphs()
	for i, a := range graphs {
		for j, b := range graphs {
			if i%4 == 0 || j%4 == 0 {
				if got := impl.IsPartOf(a, b); got != truePart(a, b) {
					t.Errorf("IsPartOf(%v, %v) is %v", a, b, got)
				}
			}
		}
		if !impl.IsPartOf(a, a) || !impl.IsPartOf(impl.Graph{}, a) || impl.IsPartOf(a, impl.Graph{}) != (a.N == 0) {
			t.Errorf("%v is not a part of itself, or not just of more", a)
		}
		for n := range a.N + 1 {
			first := changedGraph(a, n, func(c int) (int, bool) { return c, c < n })
			if !impl.IsPartOf(first, a) {
				t.Errorf("%v is not a part of %v", first, a)
			}
			expectNoPart(t, first, a)
		}
	}
}

// expectNoPart fails if what has one pair more or less than a part is one, too.
func expectNoPart(t *testing.T, part impl.Graph, whole impl.Graph) {
	t.Helper()
	for a := range part.N {
		other := cloneGraph(part)
		for b := range part.N {
			if grown, ok := impl.AddAttack(part, a, b); ok {
				other = grown
			}
		}
		if len(other.Attacks) > len(part.Attacks) && impl.IsPartOf(other, whole) {
			t.Errorf("%v is a part of %v", other, whole)
		}
	}
	for i := range part.Attacks {
		other := cloneGraph(part)
		other.Attacks = slices.Delete(other.Attacks, i, i+1)
		if impl.IsPartOf(other, whole) {
			t.Errorf("%v is a part of %v", other, whole)
		}
	}
}

func TestIsPartOfWhatIsNotValid(t *testing.T) {
	for _, bad := range badGraphs() {
		for _, g := range append([]impl.Graph{{}, graphOf(2), graphOf(2, [2]int{0, 1}), graphOf(10), maskedGraph(10, -1)}, badGraphs()...) {
			if impl.IsPartOf(bad, g) || impl.IsPartOf(g, bad) {
				t.Errorf("%v is a part of %v, or has it as a part", bad, g)
			}
		}
		if impl.IsPartOf(bad, bad) {
			t.Errorf("%v is a part of itself", bad)
		}
	}
}

func TestCountLoops(t *testing.T) {
	for _, g := range sampleGraphs() {
		want := 0
		for _, p := range g.Attacks {
			if p[0] == p[1] {
				want++
			}
		}
		if got := impl.CountLoops(g); got != want {
			t.Errorf("CountLoops(%v) is %d", g, got)
		}
	}
	if got := impl.CountLoops(maskedGraph(10, -1)); got != 10 {
		t.Errorf("CountLoops of ten claims that attack all is %d", got)
	}
	for _, g := range append(badGraphs(), graphOf(1, [2]int{0, 0}, [2]int{0, 0}), graphOf(3, [2]int{1, 1}, [2]int{0, 0})) {
		if got := impl.CountLoops(g); got != 0 {
			t.Errorf("CountLoops(%v) is %d", g, got)
		}
	}
}

func TestDisputesShareNoMemory(t *testing.T) {
	for _, g := range append(sampleGraphs(), badGraphs()...) {
		roomy, expectSame := spaciousGraph(g)
		for _, first := range [][]int{{}, {0}, {1, 0}, {0, 1}, {2, 0, 1}, {0, 1, 2, 11}} {
			under := append(slices.Clone(first), -9, -9, -9)
			l := under[:len(first)]
			expectPairsApart(t, func() impl.Graph { grown, _ := impl.WithClaim(roomy, l); return grown })
			expectPairsApart(t, func() impl.Graph { renamed, _ := impl.Renamed(roomy, l); return renamed })
			if !slices.Equal(under, append(slices.Clone(first), -9, -9, -9)) {
				t.Errorf("the list %v became %v", first, under)
			}
		}
		for claim := -1; claim < 3; claim++ {
			expectPairsApart(t, func() impl.Graph { less, _ := impl.Without(roomy, claim); return less })
		}
		impl.IsPartOf(roomy, roomy)
		impl.CountLoops(roomy)
		expectSame(t)
	}
}

// expectPairsApart fails if a change of one of the pairs of a result changes another one, or another result.
func expectPairsApart(t *testing.T, result func() impl.Graph) {
	t.Helper()
	one, two := result(), result()
	want := cloneGraph(two)
	expectListsApart(t, one.Attacks)
	spoilGraph(one)
	if !sameGraph(two, want) {
		t.Errorf("two results share memory: %v became %v", want, two)
	}
}
