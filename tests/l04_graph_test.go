package tests

import (
	"math"
	"slices"
	"testing"

	"loop.example/g03009/impl"
)

// graphOf returns a graph with n claims and these pairs, in this order.
func graphOf(n int, pairs ...[2]int) impl.Graph {
	g := impl.Graph{N: n}
	for _, p := range pairs {
		g.Attacks = append(g.Attacks, []int{p[0], p[1]})
	}
	return g
}

// exampleGraph: 0 and 1 attack one another, 1 attacks 2, and 2, 3 and 4 attack in a ring.
func exampleGraph() impl.Graph {
	return graphOf(5, [2]int{0, 1}, [2]int{1, 0}, [2]int{1, 2}, [2]int{2, 3}, [2]int{3, 4}, [2]int{4, 2})
}

// maskedGraph has n claims and the pairs whose bits, a*n + b for a attacks b, are set in mask.
func maskedGraph(n int, mask int) impl.Graph {
	g := impl.Graph{N: n}
	for a := range n {
		for b := range n {
			if mask>>(a*n+b)&1 == 1 {
				g.Attacks = append(g.Attacks, []int{a, b})
			}
		}
	}
	return g
}

// sampleGraphs are all graphs with up to three claims, some with four to ten, and the full ones.
func sampleGraphs() []impl.Graph {
	l := []impl.Graph{exampleGraph()}
	for n := range 4 {
		for mask := range 1 << (n * n) {
			l = append(l, maskedGraph(n, mask))
		}
	}
	seed := 1
	for n := 4; n <= 10; n++ {
		l = append(l, impl.Graph{N: n})
		for density := 1; density <= 8; density++ {
			g := impl.Graph{N: n}
			for a := range n {
				for b := range n {
					seed = (seed*1103515245 + 12345) % (1 << 31)
					if seed>>16%8 < density {
						g.Attacks = append(g.Attacks, []int{a, b})
					}
				}
			}
			l = append(l, g)
		}
	}
	return l
}

// badGraphs are graphs that are not valid, for each reason and for two at once.
func badGraphs() []impl.Graph {
	return []impl.Graph{
		{N: -1},
		{N: math.MinInt64},
		{N: 11},
		{N: 12},
		{N: 64},
		{N: math.MaxInt64},
		{N: 2, Attacks: [][]int{{}}},
		{N: 2, Attacks: [][]int{nil}},
		{N: 2, Attacks: [][]int{{0}}},
		{N: 2, Attacks: [][]int{{0, 1, 0}}},
		{N: 2, Attacks: [][]int{{0, 0}, {0, 1, 1}}},
		{N: 2, Attacks: [][]int{{0, 1}, {1}}},
		graphOf(0, [2]int{0, 0}),
		graphOf(2, [2]int{0, 2}),
		graphOf(2, [2]int{2, 0}),
		graphOf(2, [2]int{0, -1}),
		graphOf(2, [2]int{-1, 0}),
		graphOf(2, [2]int{0, 0}, [2]int{1, 2}),
		graphOf(2, [2]int{0, math.MaxInt64}),
		graphOf(2, [2]int{math.MinInt64, 0}),
		graphOf(10, [2]int{0, 10}),
		graphOf(10, [2]int{10, 0}),
		graphOf(11, [2]int{0, 1}),
		graphOf(-1, [2]int{0, 0}),
		graphOf(2, [2]int{0, 1}, [2]int{0, 1}),
		graphOf(2, [2]int{0, 1}, [2]int{0, 0}),
		graphOf(2, [2]int{1, 0}, [2]int{0, 1}),
		graphOf(3, [2]int{0, 1}, [2]int{1, 2}, [2]int{1, 0}),
		graphOf(3, [2]int{0, 1}, [2]int{2, 2}, [2]int{2, 2}),
		graphOf(3, [2]int{1, 2}, [2]int{0, 1}, [2]int{2, 0}),
		{N: 2, Attacks: [][]int{{0, 1}, {0, 0}, {5}}},
		{N: 99, Attacks: [][]int{{1, 0}, {0, 1}, {7, 7, 7}}},
	}
}

// cloneGraph returns a copy that shares nothing with g.
func cloneGraph(g impl.Graph) impl.Graph {
	c := impl.Graph{N: g.N}
	for _, p := range g.Attacks {
		c.Attacks = append(c.Attacks, slices.Clone(p))
	}
	return c
}

func sameGraph(a impl.Graph, b impl.Graph) bool {
	return a.N == b.N && sameLists(a.Attacks, b.Attacks)
}

func sameLists(a [][]int, b [][]int) bool {
	return slices.EqualFunc(a, b, func(x, y []int) bool { return slices.Equal(x, y) })
}

// spaciousGraph returns a copy of g in which the list and each pair have spare capacity, and a function that fails if
// anything of it, the spare capacity included, has changed.
func spaciousGraph(g impl.Graph) (impl.Graph, func(t *testing.T)) {
	roomy := impl.Graph{N: g.N, Attacks: make([][]int, 0, len(g.Attacks)+3)}
	arrays := [][]int{}
	for _, p := range g.Attacks {
		under := append(slices.Clone(p), -77, -77, -77)
		arrays = append(arrays, under)
		roomy.Attacks = append(roomy.Attacks, under[:len(p)])
	}
	full := roomy.Attacks[:cap(roomy.Attacks)]
	return roomy, func(t *testing.T) {
		t.Helper()
		for i, p := range g.Attacks {
			if !slices.Equal(arrays[i], append(slices.Clone(p), -77, -77, -77)) || !slices.Equal(full[i], p) {
				t.Errorf("the graph %v became %v, and the pair %d has %v", g, full, i, arrays[i])
			}
		}
		for _, p := range full[len(g.Attacks):] {
			if p != nil {
				t.Errorf("the spare capacity of %v has %v", g, p)
			}
		}
	}
}

// spoilGraph overwrites all memory of a graph, the spare capacity included.
func spoilGraph(g impl.Graph) {
	list := g.Attacks[:cap(g.Attacks)]
	for i, p := range list {
		spoilInts(p)
		list[i] = []int{-55}
	}
}

func spoilInts(l []int) {
	l = l[:cap(l)]
	for i := range l {
		l[i] = -66
	}
}

// attacksIn says anew whether a valid graph has a pair.
func attacksIn(g impl.Graph, a int, b int) bool {
	return slices.ContainsFunc(g.Attacks, func(p []int) bool { return p[0] == a && p[1] == b })
}

// nearClaims are all claims of a graph, and numbers that are none.
func nearClaims(g impl.Graph) []int {
	l := []int{-1, -2, -64, math.MinInt64, 15, 16, 63, 64, 65, math.MaxInt64, g.N, g.N + 1}
	for c := range 12 {
		l = append(l, c)
	}
	return l
}

func TestIsGraph(t *testing.T) {
	for _, g := range sampleGraphs() {
		if !impl.IsGraph(g) {
			t.Errorf("%v is no graph", g)
		}
	}
	for _, g := range []impl.Graph{
		{},
		{N: 0, Attacks: [][]int{}},
		{N: 9},
		{N: 10},
		graphOf(1, [2]int{0, 0}),
		graphOf(10, [2]int{9, 9}),
		graphOf(10, [2]int{0, 9}, [2]int{9, 0}),
		graphOf(3, [2]int{0, 2}, [2]int{1, 0}, [2]int{1, 1}, [2]int{2, 0}),
	} {
		if !impl.IsGraph(g) {
			t.Errorf("%v is no graph", g)
		}
	}
	for _, g := range badGraphs() {
		if impl.IsGraph(g) {
			t.Errorf("%v is a graph", g)
		}
	}
}

func TestIsGraphOfAllPairsOfPairs(t *testing.T) {
	for i := range 25 {
		for j := range 25 {
			p, q := [2]int{i/5 - 1, i%5 - 1}, [2]int{j/5 - 1, j%5 - 1}
			inside := func(c int) bool { return c >= 0 && c < 3 }
			want := inside(p[0]) && inside(p[1]) && inside(q[0]) && inside(q[1]) && (p[0] < q[0] || p[0] == q[0] && p[1] < q[1])
			if got := impl.IsGraph(graphOf(3, p, q)); got != want {
				t.Errorf("IsGraph with the pairs %v and %v is %v", p, q, got)
			}
		}
	}
}

func TestAttacksOfTheExample(t *testing.T) {
	g := exampleGraph()
	attackers := [][]int{{1}, {0}, {1, 4}, {2}, {3}}
	victims := [][]int{{1}, {0, 2}, {3}, {4}, {2}}
	for c := range 5 {
		if got := impl.AttackersOf(g, c); !slices.Equal(got, attackers[c]) {
			t.Errorf("AttackersOf %d is %v, want %v", c, got, attackers[c])
		}
		if got := impl.VictimsOf(g, c); !slices.Equal(got, victims[c]) {
			t.Errorf("VictimsOf %d is %v, want %v", c, got, victims[c])
		}
	}
}

func TestAnAttackIsThereBothWays(t *testing.T) {
	for _, g := range sampleGraphs() {
		for _, c := range nearClaims(g) {
			attackers, victims := impl.AttackersOf(g, c), impl.VictimsOf(g, c)
			wantAttackers, wantVictims := []int{}, []int{}
			for _, other := range nearClaims(g) {
				to, from := attacksIn(g, c, other), attacksIn(g, other, c)
				if impl.DoesAttack(g, c, other) != to || impl.DoesAttack(g, other, c) != from {
					t.Errorf("in %v, DoesAttack of %d and %d is not %v, %v", g, c, other, to, from)
				}
				if slices.Contains(victims, other) != to || slices.Contains(impl.AttackersOf(g, other), c) != to {
					t.Errorf("in %v, the attack of %d on %d is not there both ways", g, c, other)
				}
			}
			for other := range g.N {
				if attacksIn(g, other, c) {
					wantAttackers = append(wantAttackers, other)
				}
				if attacksIn(g, c, other) {
					wantVictims = append(wantVictims, other)
				}
			}
			if !slices.Equal(attackers, wantAttackers) || !slices.Equal(victims, wantVictims) {
				t.Errorf("in %v, %d has attackers %v and victims %v", g, c, attackers, victims)
			}
		}
	}
}

func TestClaimsThatAttackThemselves(t *testing.T) {
	g := graphOf(3, [2]int{0, 0}, [2]int{0, 1}, [2]int{2, 2})
	if !slices.Equal(impl.AttackersOf(g, 0), []int{0}) || !slices.Equal(impl.VictimsOf(g, 0), []int{0, 1}) || !slices.Equal(impl.AttackersOf(g, 1), []int{0}) {
		t.Error("claim 0 does not attack itself and 1")
	}
	if !impl.DoesAttack(g, 0, 0) || !impl.DoesAttack(g, 2, 2) || impl.DoesAttack(g, 1, 1) {
		t.Error("just 0 and 2 attack themselves")
	}
	if !slices.Equal(impl.HitBy(g, []int{2}), []int{2}) || !slices.Equal(impl.HitBy(g, []int{0}), []int{0, 1}) {
		t.Error("a set can hit its own claims")
	}
}

func TestGraphsThatAreNotValidHaveNoAttacks(t *testing.T) {
	for _, g := range badGraphs() {
		for _, a := range nearClaims(g) {
			if len(impl.AttackersOf(g, a)) != 0 || len(impl.VictimsOf(g, a)) != 0 || len(impl.HitBy(g, []int{a})) != 0 {
				t.Errorf("in %v, %d has attackers or victims", g, a)
			}
			for _, b := range []int{-1, 0, 1, 2, 7, 10} {
				if impl.DoesAttack(g, a, b) {
					t.Errorf("in %v, %d attacks %d", g, a, b)
				}
			}
		}
		if len(impl.HitBy(g, []int{0, 1, 2})) != 0 || len(impl.HitBy(g, nil)) != 0 {
			t.Errorf("in %v, something is hit", g)
		}
	}
}

func TestAddAttackPutsAPairIntoItsPlace(t *testing.T) {
	g := exampleGraph()
	cases := []struct{ a, b, place int }{{0, 0, 0}, {0, 2, 1}, {1, 1, 2}, {1, 4, 3}, {2, 0, 3}, {2, 4, 4}, {4, 1, 5}, {4, 3, 6}, {4, 4, 6}}
	for _, c := range cases {
		want := cloneGraph(g)
		want.Attacks = slices.Insert(want.Attacks, c.place, []int{c.a, c.b})
		if got, ok := impl.AddAttack(g, c.a, c.b); !ok || !sameGraph(got, want) {
			t.Errorf("AddAttack of %d and %d is %v, %v", c.a, c.b, got, ok)
		}
	}
}

func TestAddAttackOfEachPair(t *testing.T) {
	for _, g := range sampleGraphs() {
		for _, a := range nearClaims(g) {
			for _, b := range nearClaims(g) {
				want := cloneGraph(g)
				fine := a >= 0 && a < g.N && b >= 0 && b < g.N && !attacksIn(g, a, b)
				if fine {
					want.Attacks = append(want.Attacks, []int{a, b})
					slices.SortFunc(want.Attacks, slices.Compare)
				}
				got, ok := impl.AddAttack(g, a, b)
				if ok != fine || !sameGraph(got, want) || !impl.IsGraph(got) {
					t.Fatalf("AddAttack(%v, %d, %d) is %v, %v", g, a, b, got, ok)
				}
				if ok && !impl.DoesAttack(got, a, b) {
					t.Fatalf("in %v, %d does not attack %d", got, a, b)
				}
			}
		}
	}
}

func TestAddAttackCopiesWhatIsNotValid(t *testing.T) {
	for _, g := range badGraphs() {
		for _, a := range nearClaims(g) {
			for _, b := range []int{-1, 0, 1, 2, 3, 10} {
				if got, ok := impl.AddAttack(g, a, b); ok || !sameGraph(got, g) {
					t.Errorf("AddAttack(%v, %d, %d) is %v, %v", g, a, b, got, ok)
				}
			}
		}
	}
}

func TestAddAttackGrowsFromNoneToAll(t *testing.T) {
	g := impl.Graph{N: 10}
	for i := range 100 {
		pair := i * 37 % 100
		next, ok := impl.AddAttack(g, pair/10, pair%10)
		if !ok || len(next.Attacks) != i+1 || !impl.IsGraph(next) {
			t.Fatalf("AddAttack(%v, %d, %d) is %v, %v", g, pair/10, pair%10, next, ok)
		}
		g = next
	}
	for pair := range 100 {
		if _, ok := impl.AddAttack(g, pair/10, pair%10); ok {
			t.Errorf("the pair %d can be added twice", pair)
		}
	}
}

func TestHitBy(t *testing.T) {
	g := exampleGraph()
	cases := []struct{ set, want []int }{
		{nil, nil},
		{[]int{}, nil},
		{[]int{0}, []int{1}},
		{[]int{1, 2}, []int{0, 2, 3}},
		{[]int{2, 1}, []int{0, 2, 3}},
		{[]int{1, 4}, []int{0, 2}},
		{[]int{4, 4, 4}, []int{2}},
		{[]int{0, 1, 2, 3, 4}, []int{0, 1, 2, 3, 4}},
		{[]int{-1, 5, 64, math.MinInt64, math.MaxInt64}, nil},
		{[]int{-1, 3, 5}, []int{4}},
	}
	for _, c := range cases {
		if got := impl.HitBy(g, c.set); !slices.Equal(got, c.want) {
			t.Errorf("HitBy of %v is %v, want %v", c.set, got, c.want)
		}
	}
	for _, g := range sampleGraphs() {
		for mask := range 1 << g.N {
			set, want := []int{}, []int{}
			for c := range g.N {
				if mask>>c&1 == 1 {
					set = append(set, c)
				}
			}
			for c := range g.N {
				if slices.ContainsFunc(set, func(a int) bool { return attacksIn(g, a, c) }) {
					want = append(want, c)
				}
			}
			if got := impl.HitBy(g, set); !slices.Equal(got, want) {
				t.Fatalf("HitBy(%v, %v) is %v, want %v", g, set, got, want)
			}
		}
		if g.N == 4 {
			return
		}
	}
}

func TestGraphFunctionsLeaveTheirArgumentsAlone(t *testing.T) {
	for _, g := range append(sampleGraphs(), badGraphs()...) {
		roomy, expectSame := spaciousGraph(g)
		set := []int{0, 1, 2, -9, -9}
		impl.IsGraph(roomy)
		spoilInts(impl.AttackersOf(roomy, 1))
		spoilInts(impl.VictimsOf(roomy, 0))
		spoilInts(impl.HitBy(roomy, set[:3]))
		impl.DoesAttack(roomy, 0, 1)
		for a := range 3 {
			for b := range 3 {
				grown, _ := impl.AddAttack(roomy, a, b)
				spoilGraph(grown)
			}
		}
		expectSame(t)
		if !slices.Equal(set, []int{0, 1, 2, -9, -9}) {
			t.Errorf("the set became %v", set)
		}
	}
}

func TestPairsOfAGraphShareNoMemory(t *testing.T) {
	for _, pair := range [][2]int{{0, 4}, {1, 2}} { // the first one is new, and the other one is there already
		g, _ := impl.AddAttack(exampleGraph(), pair[0], pair[1])
		for i := range g.Attacks {
			want := cloneGraph(g)
			want.Attacks[i] = slices.Repeat([]int{-66}, 2)
			spoilInts(g.Attacks[i])
			if !sameGraph(g, want) {
				t.Errorf("a change of the pair %d gives %v, want %v", i, g, want)
			}
		}
	}
}
