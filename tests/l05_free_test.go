package tests

import (
	"math"
	"slices"
	"testing"

	"loop.example/g03009/impl"
)

// table says for two claims, attacker first, whether a valid graph has the attack.
type table [10][10]bool

func tableOf(g impl.Graph) table {
	var t table
	for _, p := range g.Attacks {
		t[p[0]][p[1]] = true
	}
	return t
}

// maskedSet returns the claims whose bits are set in mask.
func maskedSet(mask int) []int {
	set := []int{}
	for c := range 10 {
		if mask>>c&1 == 1 {
			set = append(set, c)
		}
	}
	return set
}

// hits says anew whether a set attacks a claim.
func (t table) hits(set []int, claim int) bool {
	return slices.ContainsFunc(set, func(a int) bool { return t[a][claim] })
}

// free says anew whether no claim of a set attacks one of it.
func (t table) free(set []int) bool {
	return !slices.ContainsFunc(set, func(c int) bool { return t.hits(set, c) })
}

// defends says anew whether each attacker of a claim is attacked by a set.
func (t table) defends(set []int, claim int) bool {
	for a := range t {
		if t[a][claim] && !t.hits(set, a) {
			return false
		}
	}
	return true
}

// defendedBy says anew what a set defends among n claims.
func (t table) defendedBy(n int, set []int) []int {
	l := []int{}
	for c := range n {
		if t.defends(set, c) {
			l = append(l, c)
		}
	}
	return l
}

// stable says anew whether a set is free and attacks all others of n claims.
func (t table) stable(n int, set []int) bool {
	for c := range n {
		if !slices.Contains(set, c) && !t.hits(set, c) {
			return false
		}
	}
	return t.free(set)
}

func containsAll(big []int, small []int) bool {
	return !slices.ContainsFunc(small, func(c int) bool { return !slices.Contains(big, c) })
}

// badSets are lists that are no sets of a graph with n claims, for each reason and for two at once.
func badSets(n int) [][]int {
	l := [][]int{{-1}, {-64}, {math.MinInt64}, {n}, {n + 1}, {10}, {16}, {64}, {math.MaxInt64}, {n, -1}, {n, n}, {-1, n}}
	if n > 0 {
		l = append(l, []int{0, 0}, []int{n - 1, n - 1}, []int{-1, 0}, []int{0, n}, []int{n - 1, n}, []int{n - 1, 64}, []int{0, math.MaxInt64}, []int{math.MinInt64, 0}, []int{0, -1}, []int{0, 0, n}, slices.Repeat([]int{0}, 40))
	}
	if n > 1 {
		l = append(l, []int{1, 0}, []int{n - 1, 0}, []int{0, 1, 0}, []int{0, 1, 1}, []int{0, 0, 1}, []int{1, 0, n}, []int{0, n, 1})
	}
	return l
}

// holdings are what the functions of chapter 5 say of a list as a whole.
type holdings struct{ set, free, admissible, stable bool }

func holdingsOf(g impl.Graph, set []int) holdings {
	return holdings{impl.IsSet(g, set), impl.IsFree(g, set), impl.IsAdmissible(g, set), impl.IsStable(g, set)}
}

// heldCase is a set with what the functions of chapter 5 must say of it.
type heldCase struct {
	set      []int
	want     holdings
	defended []int
}

func expectHoldings(t *testing.T, g impl.Graph, cases []heldCase) {
	t.Helper()
	for _, c := range cases {
		if got := holdingsOf(g, c.set); got != c.want {
			t.Errorf("%v has %+v, want %+v", c.set, got, c.want)
		}
		if got := impl.DefendedBy(g, c.set); !slices.Equal(got, c.defended) {
			t.Errorf("DefendedBy %v is %v, want %v", c.set, got, c.defended)
		}
	}
}

// expectNothingHeld fails if any function of chapter 5 takes a list as a set of a graph.
func expectNothingHeld(t *testing.T, g impl.Graph, set []int) {
	t.Helper()
	if got := holdingsOf(g, set); got != (holdings{}) {
		t.Errorf("in %v, %v has %+v", g, set, got)
	}
	if got := impl.DefendedBy(g, set); len(got) != 0 {
		t.Errorf("DefendedBy(%v, %v) is %v", g, set, got)
	}
	for _, c := range []int{-1, 0, 1, 2, 9, 10, g.N - 1, g.N} {
		if impl.Defends(g, set, c) {
			t.Errorf("Defends(%v, %v, %d) is true", g, set, c)
		}
	}
}

func TestSetsOfTheExample(t *testing.T) {
	g := exampleGraph()
	expectHoldings(t, g, []heldCase{
		{nil, holdings{true, true, true, false}, nil},
		{[]int{}, holdings{true, true, true, false}, nil},
		{[]int{0}, holdings{true, true, true, false}, []int{0}},
		{[]int{1}, holdings{true, true, true, false}, []int{1, 3}},
		{[]int{2}, holdings{true, true, false, false}, []int{4}},
		{[]int{3}, holdings{true, true, false, false}, nil},
		{[]int{4}, holdings{true, true, false, false}, []int{3}},
		{[]int{0, 3}, holdings{true, true, false, false}, []int{0, 2}},
		{[]int{1, 3}, holdings{true, true, true, true}, []int{1, 3}},
		{[]int{1, 4}, holdings{true, true, false, false}, []int{1, 3}},
		{[]int{0, 1}, holdings{true, false, false, false}, []int{0, 1, 3}},
		{[]int{2, 3}, holdings{true, false, false, false}, []int{4}},
		{[]int{0, 1, 2, 3, 4}, holdings{true, false, false, false}, []int{0, 1, 2, 3, 4}},
	})
}

func TestAllSetsOfSampleGraphs(t *testing.T) {
	for _, g := range sampleGraphs() {
		attacks := tableOf(g)
		for mask := range 1 << g.N {
			set := maskedSet(mask)
			defended := attacks.defendedBy(g.N, set)
			free := attacks.free(set)
			want := holdings{true, free, free && containsAll(defended, set), attacks.stable(g.N, set)}
			if got := holdingsOf(g, set); got != want {
				t.Fatalf("in %v, %v has %+v, want %+v", g, set, got, want)
			}
			if got := impl.DefendedBy(g, set); !slices.Equal(got, defended) {
				t.Fatalf("DefendedBy(%v, %v) is %v, want %v", g, set, got, defended)
			}
			for c := range 12 {
				if got := impl.Defends(g, set, c); got != slices.Contains(defended, c) {
					t.Fatalf("Defends(%v, %v, %d) is %v", g, set, c, got)
				}
			}
		}
	}
}

func TestGreaterSetsDefendMore(t *testing.T) {
	for _, g := range sampleGraphs() {
		for mask := range 1 << g.N {
			less := impl.DefendedBy(g, maskedSet(mask))
			for c := range g.N {
				greater := maskedSet(mask | 1<<c)
				if more := impl.DefendedBy(g, greater); !containsAll(more, less) {
					t.Fatalf("in %v, %v defends %v, but %v without %d defends %v", g, greater, more, greater, c, less)
				}
			}
		}
	}
}

func TestEmptySets(t *testing.T) {
	for _, set := range [][]int{nil, {}} {
		for _, g := range sampleGraphs() {
			if !impl.IsSet(g, set) || !impl.IsFree(g, set) || !impl.IsAdmissible(g, set) {
				t.Errorf("in %v, the empty set cannot be held", g)
			}
			if impl.IsStable(g, set) != (g.N == 0) {
				t.Errorf("in %v, IsStable of the empty set is %v", g, g.N != 0)
			}
			for c := range g.N {
				if impl.Defends(g, set, c) != (len(impl.AttackersOf(g, c)) == 0) {
					t.Errorf("in %v, the empty set defends not just what nobody attacks: %d", g, c)
				}
			}
		}
		for _, g := range badGraphs() {
			expectNothingHeld(t, g, set)
		}
		if got := impl.DefendedBy(graphOf(10), set); !slices.Equal(got, []int{0, 1, 2, 3, 4, 5, 6, 7, 8, 9}) {
			t.Errorf("in a graph without attacks, the empty set defends %v", got)
		}
		if impl.Defends(impl.Graph{}, set, 0) || len(impl.DefendedBy(impl.Graph{}, set)) != 0 {
			t.Error("there is something to defend in a graph without claims")
		}
	}
}

func TestSetsWithClaimsThatAttackThemselves(t *testing.T) {
	g := graphOf(3, [2]int{0, 0}, [2]int{0, 1}, [2]int{2, 2})
	expectHoldings(t, g, []heldCase{
		{nil, holdings{true, true, true, false}, nil},
		{[]int{0}, holdings{true, false, false, false}, []int{0, 1}}, // it attacks its only attacker
		{[]int{1}, holdings{true, true, false, false}, nil},
		{[]int{2}, holdings{true, false, false, false}, []int{2}},
		{[]int{0, 2}, holdings{true, false, false, false}, []int{0, 1, 2}},
	})
}

func TestStableSetsAttackAllOthers(t *testing.T) {
	g := graphOf(10, [2]int{0, 1}, [2]int{2, 3}, [2]int{2, 5}, [2]int{4, 7}, [2]int{9, 8})
	for _, c := range []struct {
		set  []int
		want bool
	}{
		{[]int{0, 2, 4, 6, 9}, true},
		{[]int{0, 2, 4, 6}, false},       // 8 and 9 are left alone
		{[]int{0, 2, 4, 9}, false},       // 6 is left alone
		{[]int{0, 2, 4, 6, 8, 9}, false}, // a quarrel
		{[]int{1, 2, 4, 6, 9}, false},    // 0 is left alone
	} {
		if got := impl.IsStable(g, c.set); got != c.want {
			t.Errorf("IsStable of %v is %v", c.set, got)
		}
	}
	all := []int{0, 1, 2, 3, 4, 5, 6, 7, 8, 9}
	if !impl.IsStable(graphOf(10), all) || impl.IsStable(graphOf(10), all[:9]) || impl.IsStable(graphOf(10), all[1:]) {
		t.Error("in a graph without attacks, not just the set of all is stable")
	}
}

func TestDefendsOnlyClaimsOfTheGraph(t *testing.T) {
	for _, g := range sampleGraphs() {
		for _, set := range [][]int{nil, maskedSet(1<<g.N - 1)} {
			for _, c := range nearClaims(g) {
				if (c < 0 || c >= g.N) && impl.Defends(g, set, c) {
					t.Errorf("Defends(%v, %v, %d) is true", g, set, c)
				}
			}
		}
	}
}

func TestListsThatAreNoSets(t *testing.T) {
	for _, g := range sampleGraphs() {
		for _, set := range badSets(g.N) {
			expectNothingHeld(t, g, set)
		}
	}
	// The claims at the limit are claims, and the set of all of them is one.
	if !impl.IsSet(graphOf(10), []int{9}) || !impl.IsSet(graphOf(10), []int{0, 1, 2, 3, 4, 5, 6, 7, 8, 9}) || !impl.IsSet(graphOf(3), []int{0, 2}) {
		t.Error("a set is not taken as one")
	}
}

func TestSetsOfGraphsThatAreNotValid(t *testing.T) {
	for _, g := range badGraphs() {
		for _, set := range slices.Concat([][]int{{0}, {1}, {0, 1}, {0, 1, 2}}, badSets(2)) {
			expectNothingHeld(t, g, set)
		}
	}
}

func TestFreeFunctionsLeaveTheirArgumentsAlone(t *testing.T) {
	for _, g := range append(sampleGraphs(), badGraphs()...) {
		roomy, expectSame := spaciousGraph(g)
		for _, first := range [][]int{{}, {0}, {1}, {0, 1}, {1, 0}, {0, 1, 2}, {0, 11}} {
			under := append(slices.Clone(first), -9, -9, -9)
			set := under[:len(first)]
			holdingsOf(roomy, set)
			impl.Defends(roomy, set, 1)
			one, two := impl.DefendedBy(roomy, set), impl.DefendedBy(roomy, set)
			want := slices.Clone(two)
			spoilInts(one)
			if !slices.Equal(two, want) {
				t.Errorf("two results of DefendedBy(%v, %v) share memory", g, first)
			}
			if !slices.Equal(under, append(slices.Clone(first), -9, -9, -9)) {
				t.Errorf("the set %v became %v", first, under)
			}
		}
		expectSame(t)
	}
}
