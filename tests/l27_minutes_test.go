package tests

import (
	"math"
	"slices"
	"testing"

	"loop.example/g03009/impl"
)

// minutesOf writes minutes anew: lines that say these things, each one about whom.
func minutesOf(said ...[2]int) []impl.Line {
	l, seal := []impl.Line{}, 0
	for i, s := range said {
		seal = bigHash(seal, i+1, s[0], s[1])
		l = append(l, impl.Line{No: i + 1, What: s[0], Who: s[1], Seal: seal})
	}
	return l
}

// manyLines returns minutes of so many lines.
func manyLines(count int) []impl.Line {
	said := [][2]int{}
	for i := range count {
		said = append(said, [2]int{1 + i%9, i * 7 % 100})
	}
	return minutesOf(said...)
}

// sampleMinutes are minutes of up to 200 lines.
func sampleMinutes() [][]impl.Line {
	samples := [][]impl.Line{nil, {}, manyLines(200), manyLines(199), minutesOf([2]int{1, 0}), minutesOf([2]int{9, 99}), minutesOf([2]int{1, 99}, [2]int{9, 0}), minutesOf(slices.Repeat([][2]int{{4, 4}}, 30)...)}
	next := numbersFrom(27)
	for range 150 {
		said := [][2]int{}
		for range next(12) {
			said = append(said, [2]int{1 + next(9), next(100)})
		}
		samples = append(samples, minutesOf(said...))
	}
	return samples
}

// badMinutes are lists that are not valid, for each reason and for two at once.
func badMinutes() [][]impl.Line {
	fine := manyLines(5)
	lists := [][]impl.Line{manyLines(201), manyLines(202), manyLines(400), make([]impl.Line, 1), make([]impl.Line, 201), fine[1:], fine[4:], {fine[0], fine[2]}, {fine[1], fine[0]}, {fine[0], fine[0]}, {fine[0], fine[1], fine[1]}, {fine[0], fine[2], fine[1], fine[3]}}
	for place := range fine {
		for _, spoil := range []func(x *impl.Line){
			func(x *impl.Line) { x.No++ },
			func(x *impl.Line) { x.No-- },
			func(x *impl.Line) { x.No = -x.No },
			func(x *impl.Line) { x.No = math.MaxInt64 },
			func(x *impl.Line) { x.No += impl.Modulus },
			func(x *impl.Line) { x.What = x.What%9 + 1 },
			func(x *impl.Line) { x.What += impl.Modulus },
			func(x *impl.Line) { x.Who = (x.Who + 1) % 100 },
			func(x *impl.Line) { x.Who -= impl.Modulus },
			func(x *impl.Line) { x.Seal++ },
			func(x *impl.Line) { x.Seal-- },
			func(x *impl.Line) { x.Seal = 0 },
			func(x *impl.Line) { x.Seal = -x.Seal },
			func(x *impl.Line) { x.Seal += impl.Modulus },
			func(x *impl.Line) { x.Seal = math.MinInt64 },
			func(x *impl.Line) { x.What = 0; x.Seal = 0 },
			func(x *impl.Line) { *x = impl.Line{} },
		} {
			l := slices.Clone(fine)
			spoil(&l[place])
			lists = append(lists, l)
		}
		// the right seals do not help
		for _, said := range [][2]int{{0, 7}, {10, 7}, {-1, 7}, {math.MaxInt64, 7}, {3, -1}, {3, 100}, {3, math.MinInt64}, {0, 100}} {
			all := [][2]int{{1, 1}, {2, 2}, {3, 3}, {4, 4}, {5, 5}}
			all[place] = said
			lists = append(lists, minutesOf(all...))
		}
	}
	// numbers from 0 or from 2 on, with the seals that these would have
	for _, first := range []int{0, 2} {
		l, seal := []impl.Line{}, 0
		for no := first; no < first+3; no++ {
			seal = bigHash(seal, no, 5, 5)
			l = append(l, impl.Line{No: no, What: 5, Who: 5, Seal: seal})
		}
		lists = append(lists, l)
	}
	// a first seal that comes from another one than 0
	lists = append(lists, []impl.Line{{No: 1, What: 5, Who: 5, Seal: bigHash(11, 1, 5, 5)}})
	return lists
}

// trueMinutes says anew whether lines are minutes.
func trueMinutes(l []impl.Line) bool {
	said := [][2]int{}
	for _, x := range l {
		if x.What < 1 || x.What > 9 || x.Who < 0 || x.Who > 99 {
			return false
		}
		said = append(said, [2]int{x.What, x.Who})
	}
	return len(l) <= 200 && slices.Equal(l, minutesOf(said...))
}

// trueExtends says anew whether minutes begin with all lines of old.
func trueExtends(l []impl.Line, old []impl.Line) bool {
	for i, x := range old {
		if i >= len(l) || l[i] != x {
			return false
		}
	}
	return trueMinutes(l) && trueMinutes(old)
}

func TestAreMinutes(t *testing.T) {
	for _, l := range sampleMinutes() {
		if !impl.AreMinutes(l) || !trueMinutes(l) {
			t.Errorf("%v are no minutes", l)
		}
	}
	for i, l := range badMinutes() {
		if impl.AreMinutes(l) || trueMinutes(l) {
			t.Errorf("the bad lines %d are minutes: %v", i, l)
		}
	}
	for count := 195; count <= 205; count++ {
		if got := impl.AreMinutes(manyLines(count)); got != (count <= 200) {
			t.Errorf("AreMinutes of %d lines is %v", count, got)
		}
	}
	for n := -3; n <= 103; n++ {
		if got := impl.AreMinutes(minutesOf([2]int{n, 50})); got != (n >= 1 && n <= 9) {
			t.Errorf("AreMinutes of a line that says %d is %v", n, got)
		}
		if got := impl.AreMinutes(minutesOf([2]int{5, n})); got != (n >= 0 && n <= 99) {
			t.Errorf("AreMinutes of a line about %d is %v", n, got)
		}
	}
}

func TestWriteLine(t *testing.T) {
	for _, l := range append(sampleMinutes(), badMinutes()...) {
		said := [][2]int{}
		for _, x := range l {
			said = append(said, [2]int{x.What, x.Who})
		}
		for _, s := range [][2]int{{1, 0}, {9, 99}, {5, 50}, {1, 99}, {9, 0}, {0, 50}, {10, 50}, {-1, 50}, {5, -1}, {5, 100}, {0, 100}, {10, -1}, {math.MaxInt64, 5}, {math.MinInt64, 5}, {5, math.MaxInt64}, {5, math.MinInt64}, {5 + impl.Modulus, 5}} {
			fine := trueMinutes(l) && len(l) < 200 && s[0] >= 1 && s[0] <= 9 && s[1] >= 0 && s[1] <= 99
			want := l
			if fine {
				want = minutesOf(append(said[:len(said):len(said)], s)...)
			}
			if got, ok := impl.WriteLine(l, s[0], s[1]); ok != fine || !slices.Equal(got, want) {
				t.Errorf("WriteLine(%v, %d, %d) is %v, %v, want %v, %v", l, s[0], s[1], got, ok, want, fine)
			}
		}
	}
}

func TestMinutesAreOnlyContinued(t *testing.T) {
	next := numbersFrom(72)
	l, all := []impl.Line{}, [][]impl.Line{nil}
	for count := range 203 {
		written, ok := impl.WriteLine(l, 1+next(9), next(100))
		if ok != (count < 200) {
			t.Fatalf("with %d lines WriteLine is %v", len(l), ok)
		}
		if ok && (len(written) != len(l)+1 || !slices.Equal(written[:len(l)], l) || written[len(l)].No != len(l)+1) {
			t.Errorf("%v became %v", l, written)
		}
		if !impl.AreMinutes(written) || impl.LastSeal(written) != written[len(written)-1].Seal {
			t.Errorf("%v are no minutes, or have the last seal %d", written, impl.LastSeal(written))
		}
		for _, old := range all {
			if !impl.Extends(written, old) || ok && len(old) > 0 && impl.Extends(old, written) {
				t.Errorf("%v does not extend %v, or the other way round", written, old)
			}
		}
		l, all = written, append(all, slices.Clone(written))
	}
}

func TestExtends(t *testing.T) {
	lists := append(sampleMinutes()[:40], manyLines(1), manyLines(2), manyLines(5), manyLines(6), manyLines(12), manyLines(201), manyLines(5)[1:], manyLines(6)[1:])
	for place := range 6 {
		// a line that says something else, with all seals as they should be then
		said := [][2]int{}
		for _, x := range manyLines(6) {
			said = append(said, [2]int{x.What, x.Who})
		}
		said[place][1]++
		lists = append(lists, minutesOf(said...), minutesOf(said[:5]...))
		// and one with seals as they were
		spoilt := manyLines(6)
		spoilt[place].Who++
		lists = append(lists, spoilt, spoilt[:5])
	}
	for _, l := range lists {
		for _, old := range lists {
			if got := impl.Extends(l, old); got != trueExtends(l, old) {
				t.Errorf("Extends(%v, %v) is %v", l, old, got)
			}
		}
	}
	for _, bad := range badMinutes() {
		for _, l := range [][]impl.Line{nil, bad, manyLines(5), manyLines(200), bad[:len(bad)-1]} {
			if impl.Extends(bad, l) || impl.Extends(l, bad) {
				t.Errorf("%v extends %v, or the other way round", bad, l)
			}
		}
	}
	if !impl.Extends(nil, nil) || !impl.Extends(manyLines(3), nil) || impl.Extends(nil, manyLines(1)) {
		t.Errorf("Extends(nil, nil) is %v", impl.Extends(nil, nil))
	}
}

func TestTheSameSealIsNotEnough(t *testing.T) {
	// two different minutes of three lines of which the last seal is the same
	one, other := minutesOf([2]int{1, 40}, [2]int{1, 35}, [2]int{7, 0}), minutesOf([2]int{2, 0}, [2]int{7, 0}, [2]int{1, 56})
	if !impl.AreMinutes(one) || !impl.AreMinutes(other) || impl.LastSeal(one) != impl.LastSeal(other) || one[2].Seal != other[2].Seal {
		t.Fatalf("%v and %v do not have the same last seal", one, other)
	}
	longer, _ := impl.WriteLine(one, 3, 3)
	same, _ := impl.WriteLine(other, 3, 3)
	if impl.LastSeal(longer) != impl.LastSeal(same) || impl.Extends(one, other) || impl.Extends(other, one) || impl.Extends(longer, other) || impl.Extends(same, longer) || !impl.Extends(longer, one) {
		t.Errorf("%v extends %v", one, other)
	}
	// the last lines of one after the first ones of the other one
	if mixed := append(other[:3:3], longer[3]); !impl.AreMinutes(mixed) || !impl.Extends(mixed, other) || impl.Extends(mixed, one) || impl.Extends(longer, mixed) {
		t.Errorf("%v are no minutes, or extend %v", mixed, one)
	}
}

func TestLinesOfTheSameThing(t *testing.T) {
	l, seals := []impl.Line{}, map[int]bool{}
	for count := range 200 {
		written, ok := impl.WriteLine(l, 4, 44)
		if !ok || !impl.AreMinutes(written) || !impl.Extends(written, l) || impl.Extends(l, written) {
			t.Fatalf("with %d lines of the same thing WriteLine is %v", count, ok)
		}
		l = written
		seals[impl.LastSeal(l)] = true
	}
	if len(seals) != 200 || !slices.Equal(impl.LinesOf(l, 44), speakers(1, 200)) {
		t.Errorf("200 lines of the same thing have %d seals and the numbers %v", len(seals), impl.LinesOf(l, 44))
	}
}

func TestLastSeal(t *testing.T) {
	for _, l := range append(sampleMinutes(), badMinutes()...) {
		want := 0
		if len(l) > 0 {
			want = l[len(l)-1].Seal
		}
		if got := impl.LastSeal(l); got != want {
			t.Errorf("LastSeal(%v) is %d, want %d", l, got, want)
		}
	}
	if got := impl.LastSeal([]impl.Line{{Seal: 5}, {Seal: -7}}); got != -7 {
		t.Errorf("LastSeal is %d", got)
	}
}

func TestLinesOf(t *testing.T) {
	for _, l := range append(sampleMinutes(), badMinutes()...) {
		for _, who := range []int{math.MinInt64, -1, 0, 1, 4, 7, 42, 50, 98, 99, 100, math.MaxInt64} {
			want := []int{}
			for _, place := range placesOf(l, func(x impl.Line) bool { return x.Who == who }) {
				want = append(want, l[place].No)
			}
			if got := impl.LinesOf(l, who); !slices.Equal(got, want) {
				t.Errorf("LinesOf(%v, %d) is %v, want %v", l, who, got, want)
			}
		}
	}
	// the chapter names no fallback: lines of any kind count
	l := []impl.Line{{No: 9, Who: -4}, {No: 2, Who: 5}, {No: 9, Who: -4}, {No: -1, Who: -4}}
	if got := impl.LinesOf(l, -4); !slices.Equal(got, []int{9, 9, -1}) {
		t.Errorf("LinesOf(%v, -4) is %v", l, got)
	}
}

func TestMinutesFunctionsShareNoMemory(t *testing.T) {
	spare, spoilt := impl.Line{No: -9}, impl.Line{No: -6}
	for _, l := range append(sampleMinutes(), badMinutes()...) {
		roomy, isSame := withSpare(l, spare)
		for _, what := range []int{5, 10} {
			expectFresh(t, spoilt, func() []impl.Line { written, _ := impl.WriteLine(roomy, what, 5); return written })
		}
		expectFresh(t, -6, func() []int { return impl.LinesOf(roomy, 7) })
		impl.AreMinutes(roomy)
		impl.LastSeal(roomy)
		impl.Extends(roomy, roomy[:len(l)/2])
		if !isSame() {
			t.Errorf("%v became %v", l, roomy)
		}
	}
}
