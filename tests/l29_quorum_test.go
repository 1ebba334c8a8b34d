package tests

import (
	"math"
	"slices"
	"testing"

	"loop.example/g03009/impl"
)

// extremes are numbers far from all limits, with which sums and products wrap around.
func extremes() []int {
	return []int{math.MinInt64, math.MinInt64 + 1, -1 << 62, -1 << 32, 1 << 32, 1 << 62, 1<<62 + 1, math.MaxInt64 - 1, math.MaxInt64}
}

// votesAround are numbers of votes that lie close at the limits, and some between.
func votesAround() []int {
	l := append(speakers(-3, 40), speakers(330, 8)...)
	l = append(l, speakers(497, 8)...)
	l = append(l, speakers(663, 8)...)
	return append(append(l, speakers(995, 10)...), extremes()...)
}

// truePasses says anew whether a vote passes.
func truePasses(yes int, no int, thirds bool) bool {
	switch {
	case yes < 0 || no < 0 || yes > 1000 || no > 1000:
		return false
	case thirds:
		return yes+no > 0 && 3*yes >= 2*(yes+no)
	default:
		return yes-no > 0
	}
}

// trueResult says anew what a meeting resolves.
func trueResult(members int, present int, yes int, no int, thirds bool) string {
	switch {
	case members < 1 || members > 1000 || present < 0 || present > members:
		return "invalid"
	case yes < 0 || no < 0 || yes > present || no > present || yes+no > present:
		return "invalid"
	case present <= members/2:
		return "none"
	case truePasses(yes, no, thirds):
		return "yes"
	default:
		return "no"
	}
}

// smallMeetings calls check with all meetings of up to nine members, and with numbers just beyond what can be.
func smallMeetings(check func(members int, present int, yes int, no int, thirds bool)) {
	for members := -1; members <= 9; members++ {
		for present := -1; present <= members+1; present++ {
			for yes := -1; yes <= present+1; yes++ {
				for no := -1; no <= present+1; no++ {
					check(members, present, yes, no, false)
					check(members, present, yes, no, true)
				}
			}
		}
	}
}

func TestIsQuorum(t *testing.T) {
	for _, c := range []struct {
		members, present int
		want             bool
	}{
		{1, 1, true}, {1, 0, false}, {1, 2, false}, {1, -1, false}, {2, 1, false}, {2, 2, true}, {3, 1, false}, {3, 2, true}, {10, 5, false}, {10, 6, true}, {11, 5, false}, {11, 6, true},
		{1000, 500, false}, {1000, 501, true}, {1000, 1000, true}, {1000, 1001, false}, {1001, 1000, false}, {1001, 1001, false}, {999, 499, false}, {999, 500, true},
		{0, 0, false}, {0, 1, false}, {-1, 0, false}, {-1, -1, false}, {-5, 3, false}, {10, 11, false}, {10, -6, false}, {10, math.MaxInt64, false}, {math.MinInt64, 1, false}, {10, -1 << 63, false}, {10, 1<<62 + 6, false},
	} {
		if got := impl.IsQuorum(c.members, c.present); got != c.want {
			t.Errorf("IsQuorum(%d, %d) is %v", c.members, c.present, got)
		}
	}
	for _, members := range votesAround() {
		for _, present := range append(votesAround(), members/2, members/2+1, members/2+2, members-1, members, members+1) {
			want := members >= 1 && members <= 1000 && present <= members && present > members/2
			if got := impl.IsQuorum(members, present); got != want {
				t.Errorf("IsQuorum(%d, %d) is %v", members, present, got)
			}
		}
	}
}

func TestPasses(t *testing.T) {
	for _, c := range []struct {
		yes, no     int
		most, third bool
	}{
		{0, 0, false, false}, {1, 0, true, true}, {0, 1, false, false}, {1, 1, false, false}, {2, 1, true, true}, {3, 2, true, false}, {4, 2, true, true}, {5, 3, true, false}, {6, 3, true, true}, {5, 2, true, true}, {2, 2, false, false},
		{1000, 0, true, true}, {1000, 500, true, true}, {1000, 501, true, false}, {1000, 999, true, false}, {1000, 1000, false, false}, {999, 1000, false, false}, {0, 1000, false, false},
		{1001, 0, false, false}, {1001, 500, false, false}, {1000, -1, false, false}, {-1, -2, false, false}, {-1, 0, false, false}, {5, -1, false, false}, {1001, 1001, false, false}, {1001, -1, false, false}, {1, 1001, false, false},
		{math.MaxInt64, 0, false, false}, {5, math.MinInt64, false, false}, {500, 1 << 63 / 2, false, false},
	} {
		if impl.Passes(c.yes, c.no, false) != c.most || impl.Passes(c.yes, c.no, true) != c.third {
			t.Errorf("Passes(%d, %d) is %v, and with thirds %v", c.yes, c.no, impl.Passes(c.yes, c.no, false), impl.Passes(c.yes, c.no, true))
		}
	}
	for _, yes := range votesAround() {
		for _, no := range append(votesAround(), yes/2-1, yes/2, yes/2+1) {
			for _, thirds := range []bool{false, true} {
				if got := impl.Passes(yes, no, thirds); got != truePasses(yes, no, thirds) {
					t.Errorf("Passes(%d, %d, %v) is %v", yes, no, thirds, got)
				}
			}
		}
	}
}

func TestResolve(t *testing.T) {
	smallMeetings(func(members int, present int, yes int, no int, thirds bool) {
		if got, want := impl.Resolve(members, present, yes, no, thirds), trueResult(members, present, yes, no, thirds); got != want {
			t.Errorf("Resolve(%d, %d, %d, %d, %v) is %q, want %q", members, present, yes, no, thirds, got, want)
		}
	})
	few := append([]int{-1, 0, 1, 333, 334, 499, 500, 501, 666, 667, 999, 1000, 1001}, extremes()...)
	for _, members := range few {
		for _, present := range few {
			for _, yes := range few {
				for _, no := range few {
					for _, thirds := range []bool{false, true} {
						if got, want := impl.Resolve(members, present, yes, no, thirds), trueResult(members, present, yes, no, thirds); got != want {
							t.Errorf("Resolve(%d, %d, %d, %d, %v) is %q, want %q", members, present, yes, no, thirds, got, want)
						}
					}
				}
			}
		}
	}
}

func TestKnownMeetings(t *testing.T) {
	for _, c := range []struct {
		members, present, yes, no int
		most, thirds              string
	}{
		{10, 6, 4, 2, "yes", "yes"}, {10, 6, 3, 2, "yes", "no"}, {10, 6, 3, 3, "no", "no"}, {10, 6, 2, 3, "no", "no"}, {10, 6, 0, 0, "no", "no"}, {10, 6, 1, 0, "yes", "yes"}, {1000, 1000, 667, 333, "yes", "yes"}, {1000, 1000, 666, 334, "yes", "no"}, {1000, 1000, 1000, 0, "yes", "yes"}, {1000, 1000, 500, 500, "no", "no"},
		// too few are there, whatever they want
		{10, 5, 5, 0, "none", "none"}, {10, 5, 0, 5, "none", "none"}, {10, 0, 0, 0, "none", "none"}, {1000, 500, 500, 0, "none", "none"}, {2, 1, 1, 0, "none", "none"},
		// each number alone
		{0, 0, 0, 0, "invalid", "invalid"}, {1001, 600, 5, 0, "invalid", "invalid"}, {10, -1, 0, 0, "invalid", "invalid"}, {10, 11, 1, 0, "invalid", "invalid"}, {10, 6, -1, 0, "invalid", "invalid"}, {10, 6, 1, -1, "invalid", "invalid"}, {10, 6, 7, 0, "invalid", "invalid"}, {10, 6, 0, 7, "invalid", "invalid"}, {10, 6, 4, 3, "invalid", "invalid"}, {10, 6, 6, 1, "invalid", "invalid"},
		// before too few
		{10, 5, 5, 1, "invalid", "invalid"}, {10, 5, -1, 0, "invalid", "invalid"}, {10, 5, 0, -1, "invalid", "invalid"}, {10, 0, 1, 0, "invalid", "invalid"}, {10, 5, 6, 0, "invalid", "invalid"},
		// sums that wrap around, or that only the other one makes small enough
		{10, 6, math.MaxInt64, 1, "invalid", "invalid"}, {10, 6, math.MaxInt64, math.MaxInt64, "invalid", "invalid"}, {10, 6, 1 << 62, 1 << 62, "invalid", "invalid"}, {10, 6, math.MinInt64, math.MinInt64, "invalid", "invalid"}, {10, 6, 8, -3, "invalid", "invalid"}, {10, 6, -3, 8, "invalid", "invalid"}, {10, 6, math.MinInt64, math.MaxInt64, "invalid", "invalid"},
		// two at once
		{0, 1, 2, 3, "invalid", "invalid"}, {-1, -1, -1, -1, "invalid", "invalid"}, {1001, 1001, 1001, 0, "invalid", "invalid"},
	} {
		if most, thirds := impl.Resolve(c.members, c.present, c.yes, c.no, false), impl.Resolve(c.members, c.present, c.yes, c.no, true); most != c.most || thirds != c.thirds {
			t.Errorf("of %d members %d are there, %d want it and %d do not: %q, and with thirds %q", c.members, c.present, c.yes, c.no, most, thirds)
		}
	}
}

func TestOneVoteMoreNeverTurnsAYesIntoANo(t *testing.T) {
	smallMeetings(func(members int, present int, yes int, no int, thirds bool) {
		if impl.Resolve(members, present, yes, no, thirds) != "yes" {
			return
		}
		more := []string{impl.Resolve(members+1, present+1, yes+1, no, thirds)}
		if yes+no < present {
			more = append(more, impl.Resolve(members, present, yes+1, no, thirds))
		}
		if no > 0 {
			more = append(more, impl.Resolve(members, present, yes+1, no-1, thirds), impl.Resolve(members, present, yes, no-1, thirds))
		}
		if present < members {
			more = append(more, impl.Resolve(members, present+1, yes+1, no, thirds), impl.Resolve(members, present+1, yes, no, thirds))
		}
		if slices.ContainsFunc(more, func(word string) bool { return word != "yes" }) {
			t.Errorf("of %d members %d are there, %d want it and %d do not, thirds %v: yes, and with one more %v", members, present, yes, no, thirds, more)
		}
	})
	for _, no := range votesAround() {
		for _, thirds := range []bool{false, true} {
			for yes := range 1000 {
				if impl.Passes(yes, no, thirds) && !impl.Passes(yes+1, no, thirds) {
					t.Errorf("Passes(%d, %d, %v) is true, but not with one more", yes, no, thirds)
				}
			}
		}
	}
}

func TestMeetingsOfOne(t *testing.T) {
	for _, c := range []struct {
		present, yes, no int
		want             string
	}{
		{1, 1, 0, "yes"}, {1, 0, 1, "no"}, {1, 0, 0, "no"}, {0, 0, 0, "none"}, {1, 1, 1, "invalid"}, {0, 1, 0, "invalid"}, {0, 0, 1, "invalid"}, {2, 1, 0, "invalid"}, {2, 1, 1, "invalid"}, {1, 2, 0, "invalid"}, {-1, 0, 0, "invalid"},
	} {
		for _, thirds := range []bool{false, true} {
			if got := impl.Resolve(1, c.present, c.yes, c.no, thirds); got != c.want {
				t.Errorf("Resolve(1, %d, %d, %d, %v) is %q, want %q", c.present, c.yes, c.no, thirds, got, c.want)
			}
		}
	}
	if impl.LeastYes(1, false) != 1 || impl.LeastYes(1, true) != 1 || !impl.IsQuorum(1, 1) || impl.IsQuorum(1, 0) {
		t.Errorf("of one LeastYes is %d and %d", impl.LeastYes(1, false), impl.LeastYes(1, true))
	}
}

func TestLeastYes(t *testing.T) {
	for _, c := range []struct{ votes, most, thirds int }{
		{0, -1, -1}, {1, 1, 1}, {2, 2, 2}, {3, 2, 2}, {4, 3, 3}, {5, 3, 4}, {6, 4, 4}, {7, 4, 5}, {8, 5, 6}, {9, 5, 6}, {999, 500, 666}, {1000, 501, 667}, {1001, -1, -1}, {-1, -1, -1}, {1500, -1, -1},
		{math.MaxInt64, -1, -1}, {math.MinInt64, -1, -1}, {math.MaxInt64 - 1, -1, -1}, {1 << 32, -1, -1},
	} {
		if most, thirds := impl.LeastYes(c.votes, false), impl.LeastYes(c.votes, true); most != c.most || thirds != c.thirds {
			t.Errorf("of %d votes LeastYes is %d, and with thirds %d, want %d and %d", c.votes, most, thirds, c.most, c.thirds)
		}
	}
	for votes := 1; votes <= 1000; votes++ {
		most, thirds := votes/2+1, votes-votes/3
		if impl.LeastYes(votes, false) != most || impl.LeastYes(votes, true) != thirds {
			t.Errorf("of %d votes LeastYes is %d, and with thirds %d, want %d and %d", votes, impl.LeastYes(votes, false), impl.LeastYes(votes, true), most, thirds)
		}
		if !impl.Passes(most, votes-most, false) || impl.Passes(most-1, votes-most+1, false) || !impl.Passes(thirds, votes-thirds, true) || impl.Passes(thirds-1, votes-thirds+1, true) {
			t.Errorf("of %d votes %d or, with thirds, %d are not the least that pass", votes, most, thirds)
		}
	}
}

func TestCastingVote(t *testing.T) {
	numbers := append([]int{-2, -1, 0, 1, 2, 3, 500, 1000, 1001}, extremes()...)
	for _, yes := range numbers {
		for _, no := range numbers {
			if got := impl.CastingVote(yes, no, false); got != (yes > no) {
				t.Errorf("CastingVote(%d, %d, false) is %v", yes, no, got)
			}
			if got := impl.CastingVote(yes, no, true); got != (yes >= no) {
				t.Errorf("CastingVote(%d, %d, true) is %v", yes, no, got)
			}
		}
	}
}
