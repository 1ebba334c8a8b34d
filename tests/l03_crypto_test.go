package tests

import (
	"math"
	"testing"

	"loop.example/g03009/impl"
)

func TestEqualInts(t *testing.T) {
	cases := []struct {
		a, b []int
		want bool
	}{
		{nil, nil, true},
		{nil, []int{}, true},
		{[]int{0}, []int{0}, true},
		{[]int{1, -2, 3}, []int{1, -2, 3}, true},
		{[]int{math.MinInt64, math.MaxInt64}, []int{math.MinInt64, math.MaxInt64}, true},
		{[]int{0}, nil, false},
		{[]int{1, 2}, []int{1, 2, 0}, false},
		{[]int{1, 2}, []int{2, 1}, false},
		{[]int{9, 2}, []int{1, 2}, false},
		{[]int{1, 2}, []int{1, 3}, false},
		{[]int{256}, []int{0}, false},
		{[]int{5}, []int{-5}, false},
	}
	for _, c := range cases {
		if impl.EqualInts(c.a, c.b) != c.want || impl.EqualInts(c.b, c.a) != c.want {
			t.Errorf("EqualInts(%v, %v) is not %v both ways", c.a, c.b, c.want)
		}
	}
}
