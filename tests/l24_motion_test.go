package tests

import (
	"math"
	"slices"
	"testing"

	"loop.example/g03009/impl"
)

// trueLeast says anew what a side wants least: it goes from one to the next one and keeps the one that it wants less.
func trueLeast(left []int, wants []int) int {
	for _, motion := range left {
		if firstPlace(wants, motion) < 0 {
			return motion
		}
	}
	least := 0
	for i, motion := range left {
		if i == 0 || firstPlace(wants, motion) > firstPlace(wants, least) {
			least = motion
		}
	}
	return least
}

// trueStruck strikes anew, and returns what is struck and what is left.
func trueStruck(left []int, a []int, b []int) (struck []int, rest []int) {
	if len(left) <= 1 {
		return nil, left
	}
	motion, less := trueLeast(left, a), []int{}
	for _, other := range left {
		if other != motion {
			less = append(less, other)
		}
	}
	// The sides change places for the next one.
	struck, rest = trueStruck(less, b, a)
	return append([]int{motion}, struck...), rest
}

// trueStrike says anew what is left when all of who are struck.
func trueStrike(left []int, who []int) (int, bool) {
	isLeft := map[int]bool{}
	for _, motion := range left {
		isLeft[motion] = true
	}
	if len(isLeft) != len(left) || len(left) == 0 || len(left) > 9 || len(who) != len(left)-1 {
		return 0, false
	}
	for _, motion := range who {
		if !isLeft[motion] {
			return 0, false
		}
		isLeft[motion] = false
	}
	place := slices.IndexFunc(left, func(motion int) bool { return isLeft[motion] })
	return left[place], true
}

// expectStriking fails if StrikeAll or Agreed does not return what is struck and left by the sides.
func expectStriking(t *testing.T, left []int, a []int, b []int) {
	t.Helper()
	struck, rest := trueStruck(left, a, b)
	if got := impl.StrikeAll(left, a, b); !slices.Equal(got, struck) {
		t.Errorf("StrikeAll(%v, %v, %v) is %v, want %v", left, a, b, got, struck)
	}
	want := 0
	if len(rest) == 1 {
		want = rest[0]
	}
	if got := impl.Agreed(left, a, b); got != want {
		t.Errorf("Agreed(%v, %v, %v) is %d, want %d", left, a, b, got, want)
	}
}

// debaters are motions that are all different, with the wants of two sides.
type debaters struct{ left, a, b []int }

// sampleDebaters are up to nine motions and sides that want all of them, some of them, others, or some of them twice.
func sampleDebaters() []debaters {
	samples, next := []debaters{}, numbersFrom(24)
	some := func(n int) []int {
		wants := shuffled(n+3, next)
		wants = wants[:next(len(wants)+1)]
		return append(wants, wants[:next(len(wants)+1)]...)
	}
	for n := 1; n <= 9; n++ {
		for range 150 {
			samples = append(samples, debaters{shuffled(n, next), shuffled(n, next), shuffled(n, next)}, debaters{shuffled(n, next), some(n), some(n)})
		}
		all := speakers(1, n)
		back := slices.Clone(all)
		slices.Reverse(back)
		samples = append(samples, debaters{all, all, all}, debaters{all, all, back}, debaters{all, back, all}, debaters{all, nil, nil}, debaters{all, all, nil}, debaters{all, nil, back})
	}
	return samples
}

func TestLeastWanted(t *testing.T) {
	for _, c := range []struct {
		left, wants []int
		want        int
	}{
		{nil, nil, 0}, {nil, []int{1, 2}, 0}, {[]int{}, []int{0}, 0},
		{[]int{7}, nil, 7}, {[]int{7}, []int{7}, 7}, {[]int{7}, []int{8, 7, 9}, 7}, {[]int{-7}, []int{1}, -7},
		{[]int{1, 2, 3}, []int{1, 2, 3}, 3}, {[]int{1, 2, 3}, []int{3, 2, 1}, 1}, {[]int{1, 2, 3}, []int{3, 1, 2}, 2},
		// what is not wanted at all comes before all that is, the first one of several
		{[]int{1, 2, 3}, []int{2, 3}, 1}, {[]int{1, 2, 3}, []int{1, 3}, 2}, {[]int{1, 2, 3}, []int{2, 1}, 3}, {[]int{1, 2, 3}, []int{2}, 1}, {[]int{1, 2, 3}, []int{1}, 2}, {[]int{3, 2, 1}, nil, 3}, {[]int{3, 2, 1}, []int{9, 8}, 3},
		// only the first place counts
		{[]int{1, 2}, []int{1, 2, 1}, 2}, {[]int{1, 2}, []int{2, 1, 2, 2}, 1}, {[]int{1, 2, 3}, []int{3, 3, 3, 1, 2, 1}, 2}, {[]int{1, 2, 3}, []int{5, 1, 5, 2, 5, 3, 2, 1}, 3},
		// a motion that is there twice, and 0
		{[]int{5, 5}, []int{5}, 5}, {[]int{5, 6, 5}, []int{5, 6}, 6}, {[]int{5, 6, 5}, []int{6}, 5}, {[]int{0, 1}, []int{1, 0}, 0}, {[]int{0, 1}, []int{0, 1}, 1}, {[]int{0}, nil, 0},
		{[]int{math.MinInt64, math.MaxInt64}, []int{math.MaxInt64, math.MinInt64}, math.MinInt64}, {[]int{math.MinInt64, math.MaxInt64}, []int{math.MinInt64}, math.MaxInt64},
	} {
		if got := impl.LeastWanted(c.left, c.wants); got != c.want || trueLeast(c.left, c.wants) != c.want {
			t.Errorf("LeastWanted(%v, %v) is %d, want %d", c.left, c.wants, got, c.want)
		}
	}
	allLists([]int{0, 1, 2, 3}, 4, func(left []int) {
		allLists([]int{0, 1, 2, 3, 4}, 4, func(wants []int) {
			if got, want := impl.LeastWanted(left, wants), trueLeast(left, wants); got != want {
				t.Errorf("LeastWanted(%v, %v) is %d, want %d", left, wants, got, want)
			}
		})
	})
}

func TestFirstChoice(t *testing.T) {
	for _, c := range []struct {
		left, wants []int
		want        int
	}{
		{nil, nil, 0}, {nil, []int{1, 2}, 0}, {[]int{1, 2}, nil, 0}, {[]int{1, 2}, []int{3, 4}, 0},
		{[]int{1, 2}, []int{2, 1}, 2}, {[]int{1, 2}, []int{1, 2}, 1}, {[]int{1, 2}, []int{9, 8, 2, 1}, 2}, {[]int{2, 2}, []int{1, 2}, 2},
		{[]int{0, 1}, []int{0, 1}, 0}, {[]int{0, 1}, []int{5, 1, 0}, 1}, {[]int{-4, math.MaxInt64}, []int{math.MinInt64, math.MaxInt64}, math.MaxInt64},
	} {
		if got := impl.FirstChoice(c.left, c.wants); got != c.want {
			t.Errorf("FirstChoice(%v, %v) is %d, want %d", c.left, c.wants, got, c.want)
		}
	}
	allLists([]int{1, 2, 3}, 3, func(left []int) {
		allLists([]int{1, 2, 3, 4}, 3, func(wants []int) {
			want := 0
			for _, motion := range slices.Backward(wants) {
				if firstPlace(left, motion) >= 0 {
					want = motion
				}
			}
			if got := impl.FirstChoice(left, wants); got != want {
				t.Errorf("FirstChoice(%v, %v) is %d, want %d", left, wants, got, want)
			}
		})
	})
}

func TestStrike(t *testing.T) {
	for _, c := range []struct {
		left, who []int
		want      int
	}{
		{[]int{7}, nil, 7}, {[]int{0}, []int{}, 0}, {[]int{-7}, nil, -7},
		{[]int{1, 2}, []int{1}, 2}, {[]int{1, 2}, []int{2}, 1}, {[]int{0, 2}, []int{2}, 0},
		{[]int{1, 2, 3, 4}, []int{1, 4, 2}, 3}, {[]int{4, 2, 1, 3}, []int{3, 4, 2}, 1},
		{[]int{math.MinInt64, 0, math.MaxInt64}, []int{math.MaxInt64, 0}, math.MinInt64},
		{[]int{1, 2, 3, 4, 5, 6, 7, 8, 9}, []int{9, 8, 7, 6, 4, 3, 2, 1}, 5},
	} {
		if got, ok := impl.Strike(c.left, c.who); !ok || got != c.want {
			t.Errorf("Strike(%v, %v) is %d, %v, want %d", c.left, c.who, got, ok, c.want)
		}
	}
	allLists([]int{0, 1, 2, 3}, 4, func(left []int) {
		allLists([]int{0, 1, 2, 3}, 4, func(who []int) {
			got, ok := impl.Strike(left, who)
			if want, fine := trueStrike(left, who); got != want || ok != fine {
				t.Errorf("Strike(%v, %v) is %d, %v, want %d, %v", left, who, got, ok, want, fine)
			}
		})
	})
}

func TestMotionsThatCannotBeStruck(t *testing.T) {
	left := []int{1, 2, 3, 4}
	for _, c := range []struct{ left, who []int }{
		// two that are the same
		{[]int{1, 1}, []int{1}}, {[]int{1, 2, 1}, []int{1, 2}}, {[]int{1, 2, 1}, []int{1, 1}}, {[]int{2, 1, 1}, []int{1, 2}}, {[]int{0, 0}, []int{0}},
		// none
		{nil, nil}, {nil, []int{}}, {[]int{}, []int{1}}, {nil, []int{0}},
		// not one less
		{left, nil}, {left, []int{1, 2}}, {left, []int{1, 2, 3, 4}}, {left, []int{4, 3}}, {[]int{5}, []int{5}}, {[]int{5, 6}, nil}, {[]int{5, 6}, []int{5, 6}},
		// not left when it is struck
		{left, []int{1, 1, 2}}, {left, []int{1, 2, 1}}, {left, []int{1, 2, 2}}, {left, []int{1, 2, 5}}, {left, []int{0, 1, 2}}, {left, []int{1, -2, 3}}, {[]int{5, 6}, []int{7}}, {[]int{5, 6}, []int{0}},
		// two reasons at once
		{[]int{1, 1}, []int{2}}, {[]int{1, 1}, nil}, {[]int{1, 1}, []int{1, 1}}, {left, []int{5}}, {left, []int{1, 1, 1, 1}}, {[]int{5}, []int{6}},
	} {
		if got, ok := impl.Strike(c.left, c.who); ok || got != 0 {
			t.Errorf("Strike(%v, %v) is %d, %v", c.left, c.who, got, ok)
		}
	}
	for n := range 20 {
		left := speakers(1, n)
		for _, who := range [][]int{speakers(1, n-1), speakers(2, n-1)} {
			got, ok := impl.Strike(left, who)
			if want, fine := trueStrike(left, who); ok != fine || got != want || ok != (n >= 1 && n <= 9) {
				t.Errorf("Strike(%v, %v) is %d, %v, want %d", left, who, got, ok, want)
			}
		}
	}
	// more than nine, and two of them the same
	if got, ok := impl.Strike(append(speakers(1, 9), 9), speakers(1, 9)); ok || got != 0 {
		t.Errorf("Strike of nine motions and one twice is %d", got)
	}
}

func TestStrikeAll(t *testing.T) {
	for _, c := range []struct {
		left, a, b, struck []int
		agreed             int
	}{
		{nil, nil, nil, nil, 0}, {nil, []int{1}, []int{2}, nil, 0}, {[]int{5}, nil, nil, nil, 5}, {[]int{5}, []int{1}, []int{5}, nil, 5}, {[]int{0}, nil, nil, nil, 0}, {[]int{-5}, nil, nil, nil, -5},
		{[]int{1, 2}, []int{1, 2}, []int{2, 1}, []int{2}, 1}, {[]int{1, 2}, []int{2, 1}, []int{1, 2}, []int{1}, 2}, {[]int{1, 2}, nil, nil, []int{1}, 2},
		{[]int{1, 2, 3}, []int{1, 2, 3}, []int{3, 2, 1}, []int{3, 1}, 2}, {[]int{1, 2, 3}, []int{3, 2, 1}, []int{1, 2, 3}, []int{1, 3}, 2},
		{[]int{1, 2, 3, 4}, []int{4, 3, 2, 1}, []int{1, 3, 2, 4}, []int{1, 4, 2}, 3}, {[]int{1, 2, 3, 4}, []int{1, 2}, []int{3, 4}, []int{3, 1, 4}, 2},
		// a motion that is there twice is struck at both places
		{[]int{5, 5}, nil, nil, []int{5}, 0}, {[]int{5, 5, 5}, []int{5}, nil, []int{5}, 0}, {[]int{5, 6, 5}, []int{6}, nil, []int{5}, 6}, {[]int{5, 6, 5}, []int{5}, nil, []int{6, 5}, 0}, {[]int{6, 5, 5}, []int{5, 6}, []int{6, 5}, []int{6, 5}, 0}, {[]int{5, 6, 5, 6}, nil, nil, []int{5, 6}, 0}, {[]int{5, 6, 5, 7}, nil, []int{7}, []int{5, 6}, 7},
	} {
		if got, agreed := impl.StrikeAll(c.left, c.a, c.b), impl.Agreed(c.left, c.a, c.b); !slices.Equal(got, c.struck) || agreed != c.agreed {
			t.Errorf("of %v the sides %v and %v strike %v and leave %d, want %v and %d", c.left, c.a, c.b, got, agreed, c.struck, c.agreed)
		}
	}
	allLists([]int{1, 2, 3}, 4, func(left []int) {
		allLists([]int{1, 2, 3}, 3, func(a []int) {
			allLists([]int{1, 2, 3}, 3, func(b []int) { expectStriking(t, left, a, b) })
		})
	})
	next := numbersFrom(242)
	for range 300 {
		// more motions than Strike takes, and some of them twice
		left := append(shuffled(9+next(20), next), shuffled(5, next)...)
		expectStriking(t, left, shuffled(30, next)[:next(31)], shuffled(30, next)[:next(31)])
	}
}

func TestWhatIsLeftIsWhatBothDidNotStrike(t *testing.T) {
	for _, d := range sampleDebaters() {
		expectStriking(t, d.left, d.a, d.b)
		struck, agreed := impl.StrikeAll(d.left, d.a, d.b), impl.Agreed(d.left, d.a, d.b)
		if got, ok := impl.Strike(d.left, struck); !ok || got != agreed {
			t.Errorf("Strike(%v, %v) is %d, %v, and the sides %v and %v agree on %d", d.left, struck, got, ok, d.a, d.b, agreed)
		}
		if slices.Contains(struck, agreed) || !slices.Contains(d.left, agreed) {
			t.Errorf("of %v is %v struck, and %d is left", d.left, struck, agreed)
		}
		all := append(slices.Clone(struck), agreed)
		slices.Sort(all)
		if want := slices.Sorted(slices.Values(d.left)); !slices.Equal(all, want) {
			t.Errorf("of %v is %v struck or left", d.left, all)
		}
		// nobody strikes what they want most as long as there is another one
		left := slices.Clone(d.left)
		for turn, motion := range struck {
			wants := [][]int{d.a, d.b}[turn%2]
			if best := impl.FirstChoice(left, wants); slices.Contains(wants, best) && slices.Contains(left, best) && motion == best {
				t.Errorf("of %v the side %v strikes %d", left, wants, motion)
			}
			left = slices.DeleteFunc(left, func(other int) bool { return other == motion })
		}
	}
}

func TestOneMotionAlone(t *testing.T) {
	for _, motion := range []int{1, 0, -1, 99, math.MinInt64, math.MaxInt64} {
		left := []int{motion}
		if got, ok := impl.Strike(left, nil); !ok || got != motion {
			t.Errorf("Strike(%v, nil) is %d, %v", left, got, ok)
		}
		if got, ok := impl.Strike(left, left); ok || got != 0 {
			t.Errorf("Strike(%v, %v) is %d, %v", left, left, got, ok)
		}
		for _, wants := range [][]int{nil, {motion}, {5}, {5, motion}} {
			if len(impl.StrikeAll(left, wants, wants)) != 0 || impl.Agreed(left, wants, nil) != motion || impl.Agreed(left, nil, wants) != motion || impl.LeastWanted(left, wants) != motion {
				t.Errorf("of %v the sides strike %v and agree on %d", left, impl.StrikeAll(left, wants, wants), impl.Agreed(left, wants, nil))
			}
		}
	}
}

func TestMotionFunctionsShareNoMemory(t *testing.T) {
	samples := append(sampleDebaters(), debaters{}, debaters{[]int{5, 5}, []int{5}, nil}, debaters{[]int{5, 6, 5}, []int{6, 6}, []int{5}})
	for _, d := range samples {
		left, isSameLeft := withSpare(d.left, -9)
		a, isSameA := withSpare(d.a, -9)
		b, isSameB := withSpare(d.b, -9)
		expectFresh(t, -6, func() []int { return impl.StrikeAll(left, a, b) })
		who, isSameWho := withSpare(impl.StrikeAll(left, a, b), -9)
		impl.Strike(left, who)
		impl.Strike(left, a)
		impl.LeastWanted(left, a)
		impl.Agreed(left, a, b)
		impl.FirstChoice(left, b)
		if !isSameLeft() || !isSameA() || !isSameB() || !isSameWho() {
			t.Errorf("%v, %v, %v or %v is changed", d, left, a, b)
		}
	}
}
