package tests

import (
	"math"
	"slices"
	"testing"

	"loop.example/g03009/impl"
)

// someRatings are ratings that lie close at both ends of the scale and in the middle, and some between.
func someRatings() []int {
	l := []int{}
	for rating := 0; rating <= 3000; rating++ {
		if rating <= 45 || rating >= 2955 || rating >= 1490 && rating <= 1510 || rating%41 == 0 {
			l = append(l, rating)
		}
	}
	return l
}

// noRatings are numbers beyond both ends of the scale.
func noRatings() []int {
	return []int{-1, -2, -3000, 3001, 3002, 6000, math.MinInt64, math.MinInt64 + 1, math.MaxInt64, math.MaxInt64 - 1, 1 << 32, 1<<32 + 1500}
}

// trueExpected says anew what one can expect, for two ratings.
func trueExpected(a int, b int) int {
	return max(50, min(950, 500+int(math.Trunc(float64(a-b)/2))))
}

// trueExchange says anew what two ratings exchange: it takes as much as is wished, and then less, one by one.
func trueExchange(a int, b int, won bool) int {
	wished := 32 * float64(-trueExpected(a, b)) / 1000
	if won {
		wished += 32
	}
	step, change := 1, int(math.Trunc(wished+math.Copysign(1e-9, wished)))
	if change > 0 {
		step = -1
	}
	for a+change < 0 || a+change > 3000 || b-change < 0 || b-change > 3000 {
		change += step
	}
	return change
}

// trueRates performs results anew on a copy.
func trueRates(ratings []int, results [][]int) []int {
	rated := slices.Clone(ratings)
	for _, r := range results {
		if len(r) != 2 || r[0] == r[1] || min(r[0], r[1]) < 0 || max(r[0], r[1]) >= len(rated) {
			continue
		}
		a, b := rated[r[0]], rated[r[1]]
		if min(a, b) < 0 || max(a, b) > 3000 {
			continue
		}
		change := trueExchange(a, b, true)
		rated[r[0]], rated[r[1]] = a+change, b-change
	}
	return rated
}

// sampleSeasons calls check with ratings and results of many debates between them.
func sampleSeasons(check func(ratings []int, results [][]int)) {
	next, all := numbersFrom(25), someRatings()
	for i := range 400 {
		ratings, results := []int{}, [][]int{}
		for range 1 + next(8) {
			ratings = append(ratings, all[next(len(all))])
			if i%4 == 0 {
				ratings[len(ratings)-1] = []int{0, 3, 2990, 3000}[next(4)]
			}
		}
		for range next(200) {
			results = append(results, []int{next(len(ratings)+1) - next(2), next(len(ratings))})
		}
		check(ratings, results)
	}
}

func TestRatingLimits(t *testing.T) {
	if impl.StartRating != 1500 || impl.MaxRating != 3000 {
		t.Errorf("ratings start with %d and end with %d", impl.StartRating, impl.MaxRating)
	}
}

func TestExpected(t *testing.T) {
	for _, c := range []struct{ a, b, want int }{
		{1500, 1500, 500}, {0, 0, 500}, {3000, 3000, 500},
		// half of the difference, rounded towards zero
		{1501, 1500, 500}, {1500, 1501, 500}, {1502, 1500, 501}, {1500, 1502, 499}, {1503, 1500, 501}, {1500, 1503, 499}, {1600, 1500, 550}, {1500, 1601, 450}, {1601, 1500, 550},
		// the limits
		{2399, 1500, 949}, {2400, 1500, 950}, {2401, 1500, 950}, {2402, 1500, 950}, {2403, 1500, 950}, {1500, 2399, 51}, {1500, 2400, 50}, {1500, 2401, 50}, {1500, 2402, 50}, {1500, 2403, 50},
		{3000, 0, 950}, {0, 3000, 50}, {900, 0, 950}, {0, 900, 50}, {898, 0, 949}, {0, 898, 51},
	} {
		if got := impl.Expected(c.a, c.b); got != c.want {
			t.Errorf("Expected(%d, %d) is %d, want %d", c.a, c.b, got, c.want)
		}
	}
	for _, a := range someRatings() {
		for _, b := range someRatings() {
			got := impl.Expected(a, b)
			if want := trueExpected(a, b); got != want {
				t.Errorf("Expected(%d, %d) is %d, want %d", a, b, got, want)
			}
			if other := impl.Expected(b, a); got+other != 1000 {
				t.Errorf("Expected(%d, %d) is %d, and the other way round %d", a, b, got, other)
			}
		}
	}
}

func TestExchange(t *testing.T) {
	for _, c := range []struct {
		a, b int
		won  bool
		want int
	}{
		{1500, 1500, true, 16}, {1500, 1500, false, -16}, {1600, 1500, true, 14}, {1600, 1500, false, -17}, {1500, 1600, true, 17}, {1500, 1600, false, -14},
		{2400, 1500, true, 1}, {2400, 1500, false, -30}, {1500, 2400, true, 30}, {1500, 2400, false, -1}, {0, 3000, true, 30}, {3000, 0, false, -30},
		// the one who has won is at the end of the scale
		{3000, 1500, true, 0}, {3000, 3000, true, 0}, {2999, 2999, true, 1}, {2999, 3000, true, 1}, {2985, 2985, true, 15}, {2984, 2984, true, 16}, {2983, 2983, true, 16},
		{5, 5, true, 5}, {16, 16, true, 16}, {15, 15, true, 15}, {17, 17, true, 16}, {0, 0, true, 0}, {20, 0, true, 0}, {20, 1, true, 1},
		// the one who has not won is
		{5, 5, false, -5}, {0, 5, false, 0}, {1, 5, false, -1}, {15, 15, false, -15}, {16, 16, false, -16}, {17, 17, false, -16}, {0, 0, false, 0},
		{2995, 3000, false, 0}, {2995, 2999, false, -1}, {2985, 2985, false, -15}, {2984, 2984, false, -16}, {3000, 3000, false, 0}, {3000, 0, true, 0}, {0, 3000, false, 0},
	} {
		if got := impl.Exchange(c.a, c.b, c.won); got != c.want || trueExchange(c.a, c.b, c.won) != c.want {
			t.Errorf("Exchange(%d, %d, %v) is %d, want %d", c.a, c.b, c.won, got, c.want)
		}
	}
}

func TestWhatOneGainsAnotherOneLoses(t *testing.T) {
	for _, a := range someRatings() {
		for _, b := range someRatings() {
			for _, won := range []bool{false, true} {
				got, want := impl.Exchange(a, b, won), trueExchange(a, b, won)
				if got != want {
					t.Errorf("Exchange(%d, %d, %v) is %d, want %d", a, b, won, got, want)
				}
				if other := impl.Exchange(b, a, !won); other != -got {
					t.Errorf("Exchange(%d, %d, %v) is %d, and the other way round %d", a, b, won, got, other)
				}
				x, y := impl.AfterDebate(a, b, won)
				if x != a+want || y != b-want || x+y != a+b || min(x, y) < 0 || max(x, y) > 3000 {
					t.Errorf("AfterDebate(%d, %d, %v) is %d, %d", a, b, won, x, y)
				}
				if won && x < a || !won && x > a {
					t.Errorf("AfterDebate(%d, %d, %v) goes the wrong way: %d, %d", a, b, won, x, y)
				}
			}
		}
	}
	sampleSeasons(func(ratings []int, results [][]int) {
		rated, sum := impl.RateAll(ratings, results), 0
		for _, rating := range ratings {
			sum += rating
		}
		if impl.SumRatings(rated) != sum || impl.SumRatings(ratings) != sum || len(rated) != len(ratings) {
			t.Errorf("%v became %v by %v", ratings, rated, results)
		}
		if slices.Min(rated) < 0 || slices.Max(rated) > 3000 {
			t.Errorf("%v became %v, which is beyond the scale", ratings, rated)
		}
	})
}

func TestRatingsBeyondTheScale(t *testing.T) {
	for _, bad := range noRatings() {
		for _, other := range append(noRatings(), 0, 1, 5, 1500, 2999, 3000) {
			for _, pair := range [][2]int{{bad, other}, {other, bad}} {
				a, b := pair[0], pair[1]
				if got := impl.Expected(a, b); got != -1 {
					t.Errorf("Expected(%d, %d) is %d", a, b, got)
				}
				for _, won := range []bool{false, true} {
					if got := impl.Exchange(a, b, won); got != 0 {
						t.Errorf("Exchange(%d, %d, %v) is %d", a, b, won, got)
					}
					if x, y := impl.AfterDebate(a, b, won); x != a || y != b {
						t.Errorf("AfterDebate(%d, %d, %v) is %d, %d", a, b, won, x, y)
					}
				}
				if got := impl.RateAll([]int{a, b, 1500}, [][]int{{0, 1}, {1, 0}}); !slices.Equal(got, []int{a, b, 1500}) {
					t.Errorf("%d and %d became %v", a, b, got)
				}
			}
		}
	}
}

func TestRateAll(t *testing.T) {
	start := []int{1500, 1500, 1500}
	for _, c := range []struct {
		ratings []int
		results [][]int
		want    []int
	}{
		{nil, nil, nil}, {nil, [][]int{{0, 1}}, nil}, {start, nil, start}, {start, [][]int{}, start},
		{start, [][]int{{0, 1}}, []int{1516, 1484, 1500}}, {start, [][]int{{1, 0}}, []int{1484, 1516, 1500}}, {start, [][]int{{2, 0}}, []int{1484, 1500, 1516}},
		// one after the other: the second debate is one of ratings that have changed
		{start, [][]int{{0, 1}, {1, 2}}, []int{1516, 1500, 1484}}, {start, [][]int{{1, 2}, {0, 1}}, []int{1516, 1500, 1484}}, {start, [][]int{{0, 1}, {0, 1}}, []int{1531, 1469, 1500}}, {start, [][]int{{0, 1}, {1, 0}}, []int{1500, 1500, 1500}},
		{[]int{1600, 1500}, [][]int{{1, 0}}, []int{1583, 1517}}, {[]int{2999, 2999}, [][]int{{0, 1}, {0, 1}}, []int{3000, 2998}}, {[]int{3, 3}, [][]int{{1, 0}, {1, 0}}, []int{0, 6}},
		// what is no result
		{start, [][]int{{0, 0}}, start}, {start, [][]int{{2, 2}}, start}, {start, [][]int{{0, 3}}, start}, {start, [][]int{{3, 0}}, start}, {start, [][]int{{-1, 0}}, start}, {start, [][]int{{0, -1}}, start}, {start, [][]int{{3, 4}}, start},
		{start, [][]int{nil}, start}, {start, [][]int{{}}, start}, {start, [][]int{{0}}, start}, {start, [][]int{{1}}, start}, {start, [][]int{{0, 1, 2}}, start}, {start, [][]int{{0, 1, 1}}, start}, {start, [][]int{{0, 1, 0, 1}}, start},
		{start, [][]int{{math.MaxInt64, 0}}, start}, {start, [][]int{{0, math.MinInt64}}, start}, {start, [][]int{{math.MinInt64, math.MaxInt64}}, start}, {start, [][]int{{-1, -1}}, start}, {start, [][]int{{3, 3, 3}}, start},
		// it does not end the others
		{start, [][]int{{0, 0}, {0, 1}, {0, 3}, {1}, nil, {1, 2}, {0, 1, 2}}, []int{1516, 1500, 1484}},
		{[]int{1500, 3001, 1500, -1}, [][]int{{0, 1}, {3, 0}, {0, 2}, {1, 3}}, []int{1516, 3001, 1484, -1}},
		{[]int{1500}, [][]int{{0, 0}, {0, 1}, {1, 0}}, []int{1500}},
	} {
		if got := impl.RateAll(c.ratings, c.results); !slices.Equal(got, c.want) {
			t.Errorf("RateAll(%v, %v) is %v, want %v", c.ratings, c.results, got, c.want)
		}
	}
	sampleSeasons(func(ratings []int, results [][]int) {
		if got, want := impl.RateAll(ratings, results), trueRates(ratings, results); !slices.Equal(got, want) {
			t.Errorf("RateAll(%v, %v) is %v, want %v", ratings, results, got, want)
		}
	})
}

func TestSumRatings(t *testing.T) {
	for _, c := range []struct {
		ratings []int
		want    int
	}{
		{nil, 0}, {[]int{}, 0}, {[]int{0}, 0}, {[]int{1}, 1}, {[]int{3000}, 3000}, {[]int{1500, 1500, 1}, 3001},
		{[]int{-1}, 0}, {[]int{3001}, 3000}, {[]int{-5, 4000}, 3000}, {[]int{-5, 7}, 7}, {[]int{3001, 2999}, 5999},
		{[]int{math.MinInt64, math.MaxInt64, math.MaxInt64}, 6000}, {[]int{math.MinInt64}, 0}, {slices.Repeat([]int{2999}, 1000), 2999000},
	} {
		if got := impl.SumRatings(c.ratings); got != c.want {
			t.Errorf("SumRatings(%v) is %d, want %d", c.ratings, got, c.want)
		}
	}
}

func TestRatingFunctionsShareNoMemory(t *testing.T) {
	check := func(ratings []int, results [][]int) {
		roomy, isSame := withSpare(ratings, -9)
		roomyResults, expectSame := spaciousLists(results)
		expectFresh(t, -6, func() []int { return impl.RateAll(roomy, roomyResults) })
		impl.SumRatings(roomy)
		if !isSame() {
			t.Errorf("%v became %v", ratings, roomy)
		}
		expectSame(t)
	}
	sampleSeasons(check)
	check(nil, nil)
	check([]int{1500, 1500}, nil)
	check([]int{1500, 1500}, [][]int{{0, 0}, nil, {1}, {0, 1, 2}})
}
