package tests

import (
	"math"
	"slices"
	"testing"

	"loop.example/g03009/impl"
)

// speakers returns so many speakers from one on.
func speakers(first int, count int) []int {
	l := []int{}
	for i := range count {
		l = append(l, first+i)
	}
	return l
}

// countIn says anew how many of order are in a side.
func countIn(order []int, side []int) int {
	count := 0
	for _, who := range order {
		if slices.Contains(side, who) {
			count++
		}
	}
	return count
}

// trueFair says anew whether the places up to each one are fair.
func trueFair(order []int, a []int) bool {
	for end := range len(order) + 1 {
		own := countIn(order[:end], a)
		if others := end - own; own-others > 1 || others-own > 1 {
			return false
		}
	}
	return true
}

// someSides are lists of those who are in a side, also with one who is there twice or in no order.
func someSides() [][]int {
	return [][]int{nil, {}, {1}, {2}, {1, 2}, {2, 1, 2}, {1, 3}, {0}, {0, 1}, {-1, 1}, {7}, {1, 2, 3, 0, -1}}
}

func TestTurnOrder(t *testing.T) {
	for _, c := range []struct{ a, b, want []int }{
		{[]int{1}, []int{11}, []int{11, 1}},
		{[]int{1, 2}, []int{11, 12}, []int{1, 11, 12, 2}},
		{[]int{1, 2, 3}, []int{11, 12, 13}, []int{1, 11, 2, 12, 13, 3}},
		{[]int{1, 2, 3, 4}, []int{11, 12, 13, 14}, []int{1, 11, 2, 12, 3, 13, 14, 4}},
		{[]int{1, 2, 3, 4, 5}, []int{11, 12, 13, 14, 15}, []int{1, 11, 2, 12, 3, 13, 4, 14, 15, 5}},
		{[]int{1, 2, 3, 4, 5, 6}, []int{11, 12, 13, 14, 15, 16}, []int{1, 11, 2, 12, 3, 13, 4, 14, 5, 15, 16, 6}},
		{[]int{9, 1, 5}, []int{4, 99, 2}, []int{9, 4, 1, 99, 2, 5}},
		{[]int{0, -1}, []int{math.MinInt64, math.MaxInt64}, []int{0, math.MinInt64, math.MaxInt64, -1}},
	} {
		if got := impl.TurnOrder(c.a, c.b); !slices.Equal(got, c.want) {
			t.Errorf("TurnOrder(%v, %v) is %v, want %v", c.a, c.b, got, c.want)
		}
	}
}

func TestBothSidesSpeakAsOften(t *testing.T) {
	for count := 1; count <= 6; count++ {
		for _, first := range []int{-3, 1, 50} {
			a, b := speakers(first, count), speakers(first+count, count)
			for _, sides := range [][2][]int{{a, b}, {b, a}} {
				order := impl.TurnOrder(sides[0], sides[1])
				sorted := slices.Sorted(slices.Values(order))
				if !slices.Equal(sorted, speakers(first, 2*count)) {
					t.Errorf("not everybody of %v speaks once in %v", sides, order)
				}
				if impl.CountOf(order, a) != count || impl.CountOf(order, b) != count || impl.CountOf(order, append(slices.Clone(a), b...)) != 2*count {
					t.Errorf("in %v one side speaks %d times, and the other one %d times", order, impl.CountOf(order, a), impl.CountOf(order, b))
				}
				if !impl.IsFairOrder(order, a) || !impl.IsFairOrder(order, b) {
					t.Errorf("%v is not fair to %v or %v", order, a, b)
				}
				if last := order[len(order)-1]; !slices.Contains(sides[0], last) || last != sides[0][count-1] || order[len(order)-2] != sides[1][count-1] {
					t.Errorf("the last two of %v do not speak the other way round", order)
				}
			}
		}
	}
}

func TestTurnOrderOfSidesOfOneSpeaker(t *testing.T) {
	for _, pair := range [][2]int{{1, 2}, {2, 1}, {0, 5}, {-1, 0}, {99, 98}} {
		order := impl.TurnOrder([]int{pair[0]}, []int{pair[1]})
		if !slices.Equal(order, []int{pair[1], pair[0]}) || !impl.IsFairOrder(order, []int{pair[0]}) {
			t.Errorf("TurnOrder of %v is %v", pair, order)
		}
		if impl.NextAfter(order, pair[1]) != pair[0] || impl.NextAfter(order, pair[0]) != 0 || !slices.Equal(impl.RightOfReply(order, []int{pair[0]}), order) {
			t.Errorf("after %d of %v speaks %d", pair[1], order, impl.NextAfter(order, pair[1]))
		}
	}
	if got := impl.TurnOrder([]int{4}, []int{4}); len(got) != 0 {
		t.Errorf("TurnOrder of one speaker on both sides is %v", got)
	}
}

func TestTurnOrderOfSidesThatDiffer(t *testing.T) {
	for a := range 15 {
		for b := range 15 {
			got := impl.TurnOrder(speakers(1, a), speakers(51, b))
			if fine := a == b && a >= 1 && a <= 6; len(got) != a+b && fine || len(got) != 0 && !fine {
				t.Errorf("TurnOrder of %d and %d speakers is %v", a, b, got)
			}
		}
	}
	for _, none := range [][]int{nil, {}} {
		if len(impl.TurnOrder(none, nil)) != 0 || len(impl.TurnOrder(none, []int{})) != 0 || len(impl.TurnOrder(none, []int{1})) != 0 || len(impl.TurnOrder([]int{1}, none)) != 0 {
			t.Errorf("TurnOrder of no speakers is not empty")
		}
	}
}

func TestTurnOrderOfSpeakersWhoAreThereTwice(t *testing.T) {
	for count := 1; count <= 8; count++ {
		all := speakers(0, 2*count)
		for i := range all {
			for j := range i {
				twice := slices.Clone(all)
				twice[i] = twice[j]
				if got := impl.TurnOrder(twice[:count], twice[count:]); len(got) != 0 {
					t.Errorf("TurnOrder of %v is %v", twice, got)
				}
				// not as many of both, and one who is there twice
				if got := impl.TurnOrder(twice[:count-1], twice[count-1:]); len(got) != 0 {
					t.Errorf("TurnOrder of %v is %v", twice, got)
				}
			}
		}
	}
}

func TestIsFairOrder(t *testing.T) {
	for _, c := range []struct {
		order, a []int
		want     bool
	}{
		{nil, nil, true},
		{nil, []int{1}, true},
		{[]int{1}, []int{1}, true},
		{[]int{2}, []int{1}, true},
		{[]int{1, 1}, []int{1}, false},
		{[]int{2, 2}, []int{1}, false},
		{[]int{2, 3}, nil, false},
		{[]int{1, 2}, []int{1, 2}, false},
		{[]int{1, 2, 2, 1}, []int{1}, true},
		{[]int{1, 2, 2, 2, 1, 1}, []int{1}, false},
		{[]int{1, 2, 1, 2, 1}, []int{1}, true},
		{[]int{2, 1, 1, 2, 2, 1}, []int{1}, true},
		{[]int{2, 1, 1, 1, 2, 2}, []int{1}, false},
		{[]int{1, 2, 2, 1, 1, 1, 2, 2}, []int{1}, false},
	} {
		if got := impl.IsFairOrder(c.order, c.a); got != c.want {
			t.Errorf("IsFairOrder(%v, %v) is %v", c.order, c.a, got)
		}
	}
}

func TestAllOrders(t *testing.T) {
	for _, side := range someSides() {
		allLists([]int{1, 2, 0, -1}, 5, func(order []int) {
			if got := impl.IsFairOrder(order, side); got != trueFair(order, side) {
				t.Errorf("IsFairOrder(%v, %v) is %v", order, side, got)
			}
			if got := impl.CountOf(order, side); got != countIn(order, side) {
				t.Errorf("CountOf(%v, %v) is %d", order, side, got)
			}
			want := []int{}
			for _, own := range []bool{false, true} {
				these := slices.DeleteFunc(slices.Clone(order), func(who int) bool { return slices.Contains(side, who) != own })
				if len(these) > 0 {
					want = append(want, these[len(these)-1])
				}
			}
			if got := impl.RightOfReply(order, side); !slices.Equal(got, want) {
				t.Errorf("RightOfReply(%v, %v) is %v, want %v", order, side, got, want)
			}
		})
	}
	allLists([]int{1, 2, 3, 0}, 5, func(order []int) {
		for who := -1; who <= 4; who++ {
			want := 0
			for i := len(order) - 2; i >= 0; i-- {
				if order[i] == who {
					want = order[i+1]
				}
			}
			if got := impl.NextAfter(order, who); got != want {
				t.Errorf("NextAfter(%v, %d) is %d, want %d", order, who, got, want)
			}
		}
	})
}

func TestNextAfter(t *testing.T) {
	for _, c := range []struct {
		order []int
		who   int
		want  int
	}{
		{nil, 1, 0},
		{nil, 0, 0},
		{[]int{1}, 1, 0},
		{[]int{1, 2}, 1, 2},
		{[]int{1, 2}, 2, 0},
		{[]int{1, 2}, 3, 0},
		{[]int{1, 2, 1}, 1, 2},
		{[]int{1, 2, 1, 3}, 1, 2},
		{[]int{1, 1, 3}, 1, 1},
		{[]int{2, 1, 3, 1}, 1, 3},
		{[]int{5, math.MinInt64, math.MaxInt64}, math.MinInt64, math.MaxInt64},
	} {
		if got := impl.NextAfter(c.order, c.who); got != c.want {
			t.Errorf("NextAfter(%v, %d) is %d, want %d", c.order, c.who, got, c.want)
		}
	}
	a, b := speakers(1, 6), speakers(11, 6)
	order := impl.TurnOrder(a, b)
	for i, who := range order[:11] {
		if got := impl.NextAfter(order, who); got != order[i+1] {
			t.Errorf("after %d of %v speaks %d", who, order, got)
		}
	}
}

func TestRightOfReply(t *testing.T) {
	for _, c := range []struct{ order, a, want []int }{
		{nil, nil, nil},
		{nil, []int{1}, nil},
		{[]int{1}, []int{1}, []int{1}},
		{[]int{1}, nil, []int{1}},
		{[]int{1, 2}, []int{1}, []int{2, 1}},
		{[]int{2, 1}, []int{1}, []int{2, 1}},
		{[]int{1, 2, 3}, []int{1, 2, 3}, []int{3}},
		{[]int{4, 5, 6}, []int{1, 2, 3}, []int{6}},
		{[]int{1, 2, 11, 3, 12, 13, 4}, []int{1, 2, 3}, []int{4, 3}},
		{[]int{1, 11, 2, 12, 13, 3}, []int{1, 2, 3}, []int{13, 3}},
		{[]int{0, 5, 0}, []int{0}, []int{5, 0}},
	} {
		if got := impl.RightOfReply(c.order, c.a); !slices.Equal(got, c.want) {
			t.Errorf("RightOfReply(%v, %v) is %v, want %v", c.order, c.a, got, c.want)
		}
	}
	for count := 1; count <= 6; count++ {
		a, b := speakers(1, count), speakers(11, count)
		order := impl.TurnOrder(a, b)
		if got := impl.RightOfReply(order, a); !slices.Equal(got, []int{b[count-1], a[count-1]}) {
			t.Errorf("RightOfReply(%v, %v) is %v", order, a, got)
		}
		if got := impl.RightOfReply(order, b); !slices.Equal(got, []int{a[count-1], b[count-1]}) {
			t.Errorf("RightOfReply(%v, %v) is %v", order, b, got)
		}
	}
}

func TestOrderFunctionsShareNoMemory(t *testing.T) {
	for _, side := range append(someSides(), speakers(1, 6)) {
		for _, order := range [][]int{{}, {1, 2, 0, 3}, {11}, {11, 12}, speakers(11, 6)} {
			underSide := append(slices.Clone(side), -99, -99, -99)
			underOrder := append(slices.Clone(order), -99, -99, -99)
			a, o := underSide[:len(side)], underOrder[:len(order)]
			for _, result := range []func() []int{
				func() []int { return impl.TurnOrder(a, o) },
				func() []int { return impl.TurnOrder(o, a) },
				func() []int { return impl.RightOfReply(o, a) },
			} {
				one, two := result(), result()
				want := slices.Clone(two)
				spoilInts(one)
				if !slices.Equal(two, want) {
					t.Errorf("two results about %v and %v share memory", side, order)
				}
			}
			impl.IsFairOrder(o, a)
			impl.NextAfter(o, 1)
			impl.CountOf(o, a)
			if !slices.Equal(underSide, append(slices.Clone(side), -99, -99, -99)) || !slices.Equal(underOrder, append(slices.Clone(order), -99, -99, -99)) {
				t.Errorf("%v and %v became %v and %v", side, order, underSide, underOrder)
			}
		}
	}
}
