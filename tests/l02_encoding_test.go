package tests

import (
	"bytes"
	"encoding/binary"
	"math"
	"slices"
	"testing"

	"loop.example/g03009/impl"
)

// varints are integers at the ends of each length, with their encodings.
var varints = []struct {
	n    int
	code []byte
}{
	{0, []byte{0}},
	{1, []byte{1}},
	{127, []byte{127}},
	{128, []byte{128, 1}},
	{129, []byte{129, 1}},
	{255, []byte{255, 1}},
	{256, []byte{128, 2}},
	{300, []byte{172, 2}},
	{16383, []byte{255, 127}},
	{16384, []byte{128, 128, 1}},
	{1<<21 - 1, []byte{255, 255, 127}},
	{1 << 21, []byte{128, 128, 128, 1}},
	{1<<28 - 1, []byte{255, 255, 255, 127}},
	{1 << 28, []byte{128, 128, 128, 128, 1}},
	{1<<35 - 1, []byte{255, 255, 255, 255, 127}},
	{1 << 35, []byte{128, 128, 128, 128, 128, 1}},
	{impl.MaxValue - 1, []byte{255, 159, 148, 165, 141, 29}},
	{impl.MaxValue, []byte{128, 160, 148, 165, 141, 29}},
}

// outside are integers that no varint carries.
var outside = []int{-1, -2, -127, -128, -300, -impl.MaxValue, math.MinInt64, impl.MaxValue + 1, 1 << 42, 1 << 62, math.MaxInt64}

// samples are integers of all sizes, with the ends of the lengths and of the range.
func samples() []int {
	l := []int{}
	for n := 0; n <= 600; n++ {
		l = append(l, n, impl.MaxValue-n)
	}
	for shift := 7; shift <= 35; shift += 7 {
		for d := -2; d <= 2; d++ {
			l = append(l, 1<<shift+d)
		}
	}
	for n := 1; n <= impl.MaxValue; n = n*3 + 1 {
		l = append(l, n)
	}
	return l
}

// spacious returns a slice of b with spare capacity, and the array under it.
func spacious(b []byte) (part []byte, under []byte) {
	under = append(slices.Clone(b), bytes.Repeat([]byte{0xee}, 32)...)
	return under[:len(b)], under
}

// expectApart fails if a change of the bytes of result, its spare capacity included, changes the array under an argument.
func expectApart(t *testing.T, result []byte, under []byte) {
	t.Helper()
	before := slices.Clone(under)
	result = result[:cap(result)]
	for i := range result {
		result[i] ^= 0xff
	}
	if !bytes.Equal(under, before) {
		t.Errorf("a change of the result turned the argument %v into %v", before, under)
	}
}

func TestAppendUvarint(t *testing.T) {
	for _, c := range varints {
		if got := impl.AppendUvarint(nil, c.n); !bytes.Equal(got, c.code) {
			t.Errorf("AppendUvarint(nil, %d) is %v, want %v", c.n, got, c.code)
		}
		want := append([]byte{200, 0, 9}, c.code...)
		if got := impl.AppendUvarint([]byte{200, 0, 9}, c.n); !bytes.Equal(got, want) {
			t.Errorf("AppendUvarint([200 0 9], %d) is %v, want %v", c.n, got, want)
		}
	}
}

func TestAppendUvarintLeavesOutWhatIsOutside(t *testing.T) {
	for _, n := range outside {
		for _, b := range [][]byte{nil, {}, {9}, {128, 128}} {
			if got := impl.AppendUvarint(b, n); !bytes.Equal(got, b) {
				t.Errorf("AppendUvarint(%v, %d) is %v", b, n, got)
			}
		}
	}
}

func TestAppendUvarintIsApartFromItsArgument(t *testing.T) {
	for _, n := range append(samples(), outside...) {
		for _, first := range [][]byte{{}, {1}, {1, 2, 3}} {
			b, under := spacious(first)
			before := slices.Clone(under)
			got := impl.AppendUvarint(b, n)
			if !bytes.Equal(under, before) {
				t.Errorf("AppendUvarint(%v, %d) changed its argument to %v", first, n, under)
			}
			expectApart(t, got, under)
		}
	}
}

func expectUvarint(t *testing.T, b []byte, offset int, n int, next int) {
	t.Helper()
	if got, after, ok := impl.ReadUvarint(b, offset); !ok || got != n || after != next {
		t.Errorf("ReadUvarint(%v, %d) is %d, %d, %v, want %d, %d, true", b, offset, got, after, ok, n, next)
	}
}

func expectNoUvarint(t *testing.T, b []byte, offset int) {
	t.Helper()
	if n, next, ok := impl.ReadUvarint(b, offset); ok || n != 0 || next != 0 {
		t.Errorf("ReadUvarint(%v, %d) is %d, %d, %v, want 0, 0, false", b, offset, n, next, ok)
	}
}

func TestReadUvarint(t *testing.T) {
	for _, c := range varints {
		expectUvarint(t, c.code, 0, c.n, len(c.code))
		// what lies around a varint does not matter
		expectUvarint(t, slices.Concat([]byte{255, 255}, c.code), 2, c.n, 2+len(c.code))
		expectUvarint(t, slices.Concat(c.code, []byte{0}), 0, c.n, len(c.code))
		expectUvarint(t, slices.Concat([]byte{5}, c.code, []byte{255, 255, 255}), 1, c.n, 1+len(c.code))
	}
}

func TestReadUvarintRejectsOffsetsOutOfRange(t *testing.T) {
	for _, b := range [][]byte{nil, {}, {5}, {172, 2}, {1, 2, 3, 4, 5, 6, 7, 8}} {
		for _, offset := range []int{-1, -2, -6, -7, len(b), len(b) + 1, len(b) + 6, math.MinInt64, math.MinInt64 + 6, math.MaxInt64, math.MaxInt64 - 5, math.MaxInt64 - 6} {
			expectNoUvarint(t, b, offset)
		}
	}
}

func TestReadUvarintRejectsInputsThatEndEarly(t *testing.T) {
	for _, c := range varints {
		for n := range c.code {
			// the bytes beyond the end of the slice are no input
			expectNoUvarint(t, c.code[:n], 0)
			expectNoUvarint(t, slices.Concat([]byte{3}, c.code)[:1+n], 1)
		}
	}
	for n := 1; n <= 12; n++ {
		expectNoUvarint(t, bytes.Repeat([]byte{128}, n), 0)
		expectNoUvarint(t, bytes.Repeat([]byte{255}, n), 0)
	}
}

func TestReadUvarintRejectsNonMinimalVarints(t *testing.T) {
	for _, b := range [][]byte{{128, 0}, {129, 0}, {255, 0}, {172, 130, 0}, {128, 128, 0}, {128, 128, 128, 0}, {128, 128, 128, 128, 0}, {128, 128, 128, 128, 128, 0}, {255, 255, 255, 255, 255, 0}} {
		expectNoUvarint(t, b, 0)
		expectNoUvarint(t, append(slices.Clone(b), 1), 0)
	}
	for _, c := range varints {
		padded := slices.Clone(c.code)
		for range 7 {
			padded[len(padded)-1] |= 128
			padded = append(padded, 0)
			expectNoUvarint(t, padded, 0)
		}
	}
	// a group of zero before the last one is no padding, and neither is the only group
	expectUvarint(t, []byte{129, 128, 1}, 0, 16385, 3)
	expectUvarint(t, []byte{128, 0}, 1, 0, 2)
}

func TestReadUvarintRejectsVarintsOfMoreThanSixBytes(t *testing.T) {
	for _, b := range [][]byte{
		{128, 128, 128, 128, 128, 128, 1},
		{129, 128, 128, 128, 128, 128, 0},
		{128, 128, 128, 128, 128, 128, 128, 1},
		{255, 255, 255, 255, 255, 255, 255, 255, 127},
		{128, 128, 128, 128, 128, 128, 128, 128, 128, 1}, // the last group lies beyond 2 to the power of 63
		{133, 128, 128, 128, 128, 128, 128, 128, 128, 2}, // and here it wraps around, so that 5 is left
		{133, 128, 128, 128, 128, 128, 128, 128, 128, 128, 1},
	} {
		expectNoUvarint(t, b, 0)
	}
}

func TestReadUvarintRejectsValuesBeyondMaxValue(t *testing.T) {
	expectUvarint(t, []byte{128, 160, 148, 165, 141, 29}, 0, impl.MaxValue, 6)
	for _, b := range [][]byte{
		{129, 160, 148, 165, 141, 29}, // MaxValue and 1
		{128, 161, 148, 165, 141, 29},
		{128, 160, 148, 165, 141, 30},
		{128, 128, 128, 128, 128, 64},
		{255, 255, 255, 255, 255, 127},
	} {
		expectNoUvarint(t, b, 0)
	}
	for _, n := range []uint64{impl.MaxValue + 1, impl.MaxValue + 128, 1 << 40, 1<<42 - 1, 1 << 42, 1 << 62, 1 << 63, math.MaxUint64} {
		expectNoUvarint(t, binary.AppendUvarint(nil, n), 0)
	}
}

// uvarintOf says anew what ReadUvarint returns: the one integer whose encoding lies at the offset.
func uvarintOf(b []byte, offset int) (int, int, bool) {
	if offset < 0 || offset >= len(b) {
		return 0, 0, false
	}
	n, length := binary.Uvarint(b[offset:])
	if length <= 0 || length > 6 || n > 1000000000000 || !bytes.Equal(binary.AppendUvarint(nil, n), b[offset:offset+length]) {
		return 0, 0, false
	}
	return int(n), offset + length, true
}

func TestReadUvarintOfAllShortInputs(t *testing.T) {
	groups := []byte{0, 1, 2, 29, 30, 127, 128, 129, 141, 148, 160, 165, 255}
	var check func(b []byte, depth int)
	check = func(b []byte, depth int) {
		want, end, fine := uvarintOf(b, 0)
		if n, next, ok := impl.ReadUvarint(b, 0); n != want || next != end || ok != fine {
			t.Errorf("ReadUvarint(%v, 0) is %d, %d, %v, want %d, %d, %v", b, n, next, ok, want, end, fine)
		}
		if depth == 0 {
			return
		}
		for _, g := range groups {
			check(append(b[:len(b):len(b)], g), depth-1)
		}
	}
	check([]byte{}, 4)
	check([]byte{128, 160, 148, 165}, 4)
	check([]byte{128, 128, 128, 128, 128}, 3)
	for i := range 256 {
		for j := range 256 {
			check([]byte{byte(i), byte(j)}, 0)
			check([]byte{128, 160, 148, 165, byte(i), byte(j)}, 0)
		}
	}
}

func TestReadUvarintInvertsAppendUvarint(t *testing.T) {
	for _, n := range samples() {
		for _, first := range [][]byte{nil, {0}, {128, 255, 7}} {
			b := impl.AppendUvarint(first, n)
			if want := binary.AppendUvarint(slices.Clone(first), uint64(n)); !bytes.Equal(b, want) {
				t.Errorf("AppendUvarint(%v, %d) is %v, want %v", first, n, b, want)
			}
			expectUvarint(t, b, len(first), n, len(b))
		}
	}
}

func TestAppendBytes(t *testing.T) {
	long := bytes.Repeat([]byte{7}, 300)
	cases := []struct{ b, data, want []byte }{
		{nil, nil, []byte{0}},
		{nil, []byte{}, []byte{0}},
		{[]byte{4}, nil, []byte{4, 0}},
		{nil, []byte{9}, []byte{1, 9}},
		{[]byte{1}, []byte{7, 8}, []byte{1, 2, 7, 8}},
		{[]byte{128}, []byte{128, 0}, []byte{128, 2, 128, 0}},
		{nil, long[:127], append([]byte{127}, long[:127]...)},
		{nil, long[:128], append([]byte{128, 1}, long[:128]...)},
		{[]byte{5, 6}, long, append([]byte{5, 6, 172, 2}, long...)},
	}
	for _, c := range cases {
		if got := impl.AppendBytes(c.b, c.data); !bytes.Equal(got, c.want) {
			t.Errorf("AppendBytes(%v, %v) is %v, want %v", c.b, c.data, got, c.want)
		}
	}
}

func TestAppendBytesIsApartFromItsArguments(t *testing.T) {
	for length := range 20 {
		b, under := spacious([]byte{1, 2, 3})
		data, underData := spacious(bytes.Repeat([]byte{5}, length))
		before, beforeData := slices.Clone(under), slices.Clone(underData)
		got := impl.AppendBytes(b, data)
		if !bytes.Equal(under, before) || !bytes.Equal(underData, beforeData) {
			t.Errorf("AppendBytes changed its arguments to %v and %v", under, underData)
		}
		expectApart(t, got, under)
		expectApart(t, got, underData)
	}
	// both arguments may lie in one array
	_, under := spacious([]byte{1, 2, 3, 4, 5})
	before := slices.Clone(under)
	if got := impl.AppendBytes(under[:2], under[1:5]); !bytes.Equal(got, []byte{1, 2, 4, 2, 3, 4, 5}) || !bytes.Equal(under, before) {
		t.Errorf("AppendBytes is %v, and the array is %v", got, under)
	}
}

func expectBytes(t *testing.T, b []byte, offset int, maxLen int, data []byte, next int) {
	t.Helper()
	if got, after, ok := impl.ReadBytes(b, offset, maxLen); !ok || after != next || !bytes.Equal(got, data) {
		t.Errorf("ReadBytes(%v, %d, %d) is %v, %d, %v, want %v, %d, true", b, offset, maxLen, got, after, ok, data, next)
	}
}

func expectNoBytes(t *testing.T, b []byte, offset int, maxLen int) {
	t.Helper()
	if got, next, ok := impl.ReadBytes(b, offset, maxLen); ok || next != 0 || len(got) != 0 {
		t.Errorf("ReadBytes(%v, %d, %d) is %v, %d, %v, want nothing, 0, false", b, offset, maxLen, got, next, ok)
	}
}

func TestReadBytes(t *testing.T) {
	b := []byte{1, 2, 7, 8, 0, 3}
	expectBytes(t, b, 0, 1, []byte{2}, 2)
	expectBytes(t, b, 1, 2, []byte{7, 8}, 4)
	expectBytes(t, b, 1, 100, []byte{7, 8}, 4)
	expectBytes(t, b, 1, math.MaxInt64, []byte{7, 8}, 4)
	expectBytes(t, b, 4, 0, nil, 5)
	expectBytes(t, b, 4, 9, nil, 5)
	expectBytes(t, []byte{0}, 0, 0, nil, 1)
	expectBytes(t, b[:4], 1, 2, []byte{7, 8}, 4)
}

func TestReadBytesRejectsLengthsBeyondMaxLen(t *testing.T) {
	for length := range 140 {
		data := bytes.Repeat([]byte{6}, length)
		b := append(impl.AppendBytes([]byte{3}, data), 1, 2, 3)
		expectBytes(t, b, 1, length, data, len(b)-3)
		expectBytes(t, b, 1, length+1, data, len(b)-3)
		expectNoBytes(t, b, 1, length-1)
		expectNoBytes(t, b, 1, -1)
		expectNoBytes(t, b, 1, math.MinInt64)
	}
}

func TestReadBytesRejectsInputsThatEndEarly(t *testing.T) {
	for _, length := range []int{0, 1, 2, 5, 127, 128, 200} {
		b := impl.AppendBytes([]byte{3}, bytes.Repeat([]byte{6}, length))
		for n := range b {
			// the bytes beyond the end of the slice are no input
			expectNoBytes(t, b[:n], 1, 1000)
		}
		expectBytes(t, b, 1, 1000, bytes.Repeat([]byte{6}, length), len(b))
	}
	// lengths that no input has
	for _, n := range []int{1 << 30, impl.MaxValue - 1, impl.MaxValue} {
		expectNoBytes(t, append(impl.AppendUvarint(nil, n), 1, 2, 3), 0, math.MaxInt64)
		expectNoBytes(t, append(impl.AppendUvarint(nil, n), 1, 2, 3), 0, impl.MaxValue)
	}
}

func TestReadBytesRejectsInvalidPrefixes(t *testing.T) {
	for _, offset := range []int{-1, 3, 4, math.MinInt64, math.MaxInt64} {
		expectNoBytes(t, []byte{0, 1, 9}, offset, 10)
		expectNoBytes(t, []byte{0, 1, 9}, offset, 0)
	}
	expectNoBytes(t, nil, 0, 0)
	expectNoBytes(t, []byte{128, 0}, 0, 10)                             // not minimal
	expectNoBytes(t, []byte{129, 0, 5}, 0, 10)                          // not minimal
	expectNoBytes(t, []byte{128}, 0, 10)                                // ends early
	expectNoBytes(t, []byte{128, 128, 128, 128, 128, 128, 0, 1}, 0, 10) // more than six bytes
	expectNoBytes(t, binary.AppendUvarint(nil, impl.MaxValue+1), 0, math.MaxInt64)
	expectNoBytes(t, append(binary.AppendUvarint(nil, math.MaxUint64), 1, 2), 0, math.MaxInt64)
}

func TestReadBytesIsApartFromItsArgument(t *testing.T) {
	for length := range 10 {
		b, under := spacious(impl.AppendBytes([]byte{3}, bytes.Repeat([]byte{6}, length)))
		before := slices.Clone(under)
		got, _, ok := impl.ReadBytes(b, 1, 10)
		if !ok || !bytes.Equal(under, before) {
			t.Errorf("ReadBytes of length %d is %v, and its argument is %v", length, ok, under)
		}
		expectApart(t, got, under)
		rejected, _, _ := impl.ReadBytes(b, 1, length-1)
		expectApart(t, rejected, under)
	}
}

func TestReadBytesInvertsAppendBytes(t *testing.T) {
	for length := range 300 {
		data := []byte{}
		for i := range length {
			data = append(data, byte(i*i+length))
		}
		for _, first := range [][]byte{nil, {255}, {0, 128}} {
			b := impl.AppendBytes(first, data)
			expectBytes(t, b, len(first), 300, data, len(b))
		}
	}
}

func TestEncodeInts(t *testing.T) {
	cases := []struct {
		values []int
		want   []byte
	}{
		{nil, nil},
		{[]int{}, nil},
		{[]int{0}, []byte{0}},
		{[]int{5, 300}, []byte{5, 172, 2}},
		{[]int{300, 5, 0, 128}, []byte{172, 2, 5, 0, 128, 1}},
		{[]int{impl.MaxValue, 1}, []byte{128, 160, 148, 165, 141, 29, 1}},
		{[]int{-1}, nil},
		{outside, nil},
		{[]int{-1, 5, impl.MaxValue + 1, 300, math.MinInt64}, []byte{5, 172, 2}},
	}
	for _, c := range cases {
		before := slices.Clone(c.values)
		if got := impl.EncodeInts(c.values); !bytes.Equal(got, c.want) {
			t.Errorf("EncodeInts(%v) is %v, want %v", c.values, got, c.want)
		}
		if !slices.Equal(c.values, before) {
			t.Errorf("EncodeInts changed %v to %v", before, c.values)
		}
	}
}

func expectInts(t *testing.T, b []byte, offset int, count int, values []int, next int) {
	t.Helper()
	if got, after, ok := impl.DecodeInts(b, offset, count); !ok || after != next || !slices.Equal(got, values) {
		t.Errorf("DecodeInts(%v, %d, %d) is %v, %d, %v, want %v, %d, true", b, offset, count, got, after, ok, values, next)
	}
}

func expectNoInts(t *testing.T, b []byte, offset int, count int) {
	t.Helper()
	if got, next, ok := impl.DecodeInts(b, offset, count); ok || next != 0 || len(got) != 0 {
		t.Errorf("DecodeInts(%v, %d, %d) is %v, %d, %v, want nothing, 0, false", b, offset, count, got, next, ok)
	}
}

func TestDecodeInts(t *testing.T) {
	b := []byte{5, 172, 2, 0, 7}
	expectInts(t, b, 0, 0, nil, 0)
	expectInts(t, b, 0, 1, []int{5}, 1)
	expectInts(t, b, 0, 2, []int{5, 300}, 3)
	expectInts(t, b, 0, 4, []int{5, 300, 0, 7}, 5)
	expectInts(t, b, 1, 3, []int{300, 0, 7}, 5)
	expectInts(t, b, 2, 1, []int{2}, 3)
	expectInts(t, b, 4, 1, []int{7}, 5)
	expectNoInts(t, b, 0, 5)
	expectNoInts(t, b, 4, 2)
}

func TestDecodeIntsOfNoneNeedsOnlyAnOffset(t *testing.T) {
	for _, b := range [][]byte{nil, {}, {5}, {128, 0}, {255, 255, 255}} {
		for offset := range len(b) + 1 {
			expectInts(t, b, offset, 0, nil, offset)
		}
		for _, offset := range []int{-1, len(b) + 1, math.MinInt64, math.MaxInt64} {
			expectNoInts(t, b, offset, 0)
		}
	}
}

func TestDecodeIntsRejectsCountsOutOfRange(t *testing.T) {
	b := bytes.Repeat([]byte{3}, 200)
	expectInts(t, b, 1, 99, slices.Repeat([]int{3}, 99), 100)
	expectInts(t, b, 1, 100, slices.Repeat([]int{3}, 100), 101)
	for _, count := range []int{101, 102, 200, -1, -100, math.MinInt64, math.MaxInt64, impl.MaxValue} {
		expectNoInts(t, b, 0, count)
		expectNoInts(t, nil, 0, count)
	}
}

func TestDecodeIntsRejectsOffsetsOutOfRange(t *testing.T) {
	b := []byte{5, 6, 7}
	for _, offset := range []int{-1, -3, 4, 5, math.MinInt64, math.MaxInt64} {
		for count := range 4 {
			expectNoInts(t, b, offset, count)
		}
	}
	expectNoInts(t, b, 3, 1)
}

func TestDecodeIntsRejectsInvalidVarints(t *testing.T) {
	bad := [][]byte{
		{},
		{128},
		{128, 0},
		{172, 130, 0},
		{128, 128, 128, 128, 128, 128, 1},
		{129, 160, 148, 165, 141, 29},
	}
	for _, invalid := range bad {
		for before := range 4 {
			b := slices.Concat([]byte{9, 9, 9}[:before], invalid)
			expectInts(t, b, 0, before, []int{9, 9, 9}[:before], before)
			expectNoInts(t, b, 0, before+1)
			// what follows an invalid varint does not help
			if len(invalid) > 1 {
				expectNoInts(t, append(b, 1, 1, 1), 0, before+1)
				expectNoInts(t, append(b, 1, 1, 1), 0, before+2)
			}
		}
	}
}

func TestDecodeIntsIsApartFromItsArgument(t *testing.T) {
	b, under := spacious([]byte{5, 172, 2, 0})
	before := slices.Clone(under)
	first, _, _ := impl.DecodeInts(b, 0, 3)
	second, _, _ := impl.DecodeInts(b, 0, 3)
	for i := range first {
		first[i] = -1
	}
	if !bytes.Equal(under, before) || !slices.Equal(second, []int{5, 300, 0}) {
		t.Errorf("the argument is %v and another result %v", under, second)
	}
}

func TestDecodeIntsInvertsEncodeInts(t *testing.T) {
	all := samples()
	for count := range 101 {
		for from := 0; from+count <= len(all); from += 97 {
			values := all[from : from+count]
			b := impl.EncodeInts(values)
			expectInts(t, b, 0, count, values, len(b))
			expectNoInts(t, b, 0, count+1)
			shifted := slices.Concat([]byte{128, 7}, b, []byte{128})
			expectInts(t, shifted, 2, count, values, 2+len(b))
			expectNoInts(t, shifted, 2, count+1)
		}
	}
}

func TestEqualBytes(t *testing.T) {
	cases := []struct {
		a, b []byte
		want bool
	}{
		{nil, nil, true},
		{nil, []byte{}, true},
		{[]byte{0}, []byte{0}, true},
		{[]byte{1, 2, 3}, []byte{1, 2, 3}, true},
		{[]byte{0}, nil, false},
		{[]byte{1, 2}, []byte{1, 2, 0}, false},
		{[]byte{1, 2}, []byte{2, 1}, false},
		{[]byte{9, 2}, []byte{1, 2}, false},
		{[]byte{1, 2}, []byte{1, 3}, false},
		{[]byte{128}, []byte{0}, false},
		{[]byte("k"), []byte("K"), false},
		{[]byte{254}, []byte{255}, false}, // neither is UTF-8
	}
	for _, c := range cases {
		if impl.EqualBytes(c.a, c.b) != c.want || impl.EqualBytes(c.b, c.a) != c.want {
			t.Errorf("EqualBytes(%v, %v) is not %v both ways", c.a, c.b, c.want)
		}
	}
}
