package tests

import (
	"bytes"
	"math"
	"math/big"
	"slices"
	"strings"
	"testing"

	"loop.example/g03009/impl"
)

// bigHash says anew what Hash returns, with numbers that never wrap around.
func bigHash(values ...int) int {
	p := big.NewInt(2147483647)
	sum := big.NewInt(11)
	for _, v := range values {
		sum.Mul(sum, big.NewInt(1000003))
		sum.Add(sum, new(big.Int).Mod(big.NewInt(int64(v)), p))
		sum.Add(sum, big.NewInt(13))
		sum.Mod(sum, p)
	}
	return int(sum.Int64())
}

// keyed is the sequence that KeyedHash hashes.
func keyed(key int, values []int) []int {
	return slices.Concat([]int{key}, values, []int{key})
}

// hashed are values of all sizes and both signs, with those at the limits.
var hashed = []int{0, 1, 2, 12, 13, 255, 256, 1000003, impl.Modulus - 14, impl.Modulus - 13, impl.Modulus - 1, impl.Modulus, impl.Modulus + 1, 2 * impl.Modulus, 2*impl.Modulus + 5, impl.MaxValue, impl.MaxValue + 1, math.MaxInt64 - 1, math.MaxInt64, -1, -2, -13, -255, -256, -impl.Modulus + 1, -impl.Modulus, -impl.Modulus - 1, -2 * impl.Modulus, -impl.MaxValue, math.MinInt64 + 1, math.MinInt64}

// texts are byte strings of many lengths, with all bytes.
func texts() [][]byte {
	all := []byte{}
	for i := range 600 {
		all = append(all, byte(i))
	}
	l := [][]byte{nil, {}, {0}, {255}, []byte("hello"), []byte("k\u00e4se"), all, bytes.Repeat([]byte{0}, 300), bytes.Repeat([]byte{255}, 300)}
	for n := range 20 {
		l = append(l, all[100+n:100+2*n])
	}
	return l
}

func TestHash(t *testing.T) {
	cases := []struct {
		values []int
		want   int
	}{
		{nil, 11},
		{[]int{}, 11},
		{[]int{5}, 11000051},
		{[]int{0}, 11000046},
		{[]int{1}, 11000047},
		{[]int{impl.Modulus}, 11000046},
		{[]int{impl.Modulus + 5}, 11000051},
		{[]int{impl.Modulus - 1}, 11000045},
		{[]int{-1}, 11000045},
		{[]int{-13}, 11000033},
		{[]int{5 - impl.Modulus}, 11000051},
		{[]int{-impl.Modulus}, 11000046},
		{[]int{-11000046}, 0},
		{[]int{impl.Modulus - 11000046}, 0},
		{[]int{-11000047}, impl.Modulus - 1},
	}
	for _, c := range cases {
		if got := impl.Hash(c.values); got != c.want {
			t.Errorf("Hash(%v) is %d, want %d", c.values, got, c.want)
		}
	}
}

func TestHashOfSeveralValues(t *testing.T) {
	if impl.Modulus != 2147483647 {
		t.Fatalf("Modulus is %d", impl.Modulus)
	}
	check := func(values ...int) {
		t.Helper()
		before := slices.Clone(values)
		got := impl.Hash(values)
		if want := bigHash(before...); got != want || got < 0 || got >= impl.Modulus {
			t.Errorf("Hash(%v) is %d, want %d", before, got, want)
		}
		if !slices.Equal(values, before) {
			t.Errorf("Hash changed %v to %v", before, values)
		}
	}
	for _, a := range hashed {
		check(a)
		for _, b := range hashed {
			check(a, b)
			check(b, 7, a, a)
		}
	}
	check(hashed...)
	check(slices.Repeat(hashed, 40)...)
	check(samples()...)
	check(slices.Repeat([]int{0}, 5000)...)
}

func TestHashTakesValuesModuloModulus(t *testing.T) {
	for _, v := range hashed {
		rest := ((v % impl.Modulus) + impl.Modulus) % impl.Modulus
		for _, w := range []int{rest, rest + impl.Modulus, rest - impl.Modulus, rest - 1000*impl.Modulus} {
			if impl.Hash([]int{3, v, 4}) != impl.Hash([]int{3, w, 4}) {
				t.Errorf("the hashes with %d and %d differ", v, w)
			}
		}
	}
}

func TestHashDependsOnTheOrder(t *testing.T) {
	if impl.Hash([]int{1, 2}) == impl.Hash([]int{2, 1}) || impl.Hash([]int{0}) == impl.Hash([]int{0, 0}) || impl.Hash([]int{-1}) == impl.Hash([]int{1}) {
		t.Error("the order, the number and the signs of the values do not count")
	}
}

func TestKeyedHash(t *testing.T) {
	for _, key := range hashed {
		for n := range 12 {
			for from := range hashed[:len(hashed)-n] {
				values := hashed[from : from+n]
				want := bigHash(keyed(key, values)...)
				if got := impl.KeyedHash(key, values); got != want || got != impl.Hash(keyed(key, values)) {
					t.Errorf("KeyedHash(%d, %v) is %d, want %d", key, values, got, want)
				}
			}
		}
	}
	if impl.KeyedHash(3, nil) != impl.Hash([]int{3, 3}) || impl.KeyedHash(3, []int{}) != impl.Hash([]int{3, 3}) {
		t.Error("the keyed hash of no values is not the hash of the key and the key")
	}
}

func TestKeyedHashDependsOnEachOfItsValues(t *testing.T) {
	values := []int{4, 0, -9, 255, impl.Modulus - 1, 6, 6, impl.MaxValue}
	for _, key := range []int{1, 2, 77, impl.Modulus - 1, -5, impl.MaxValue} {
		h := impl.KeyedHash(key, values)
		for i := range values {
			for _, d := range []int{1, -1, 2, 256, 1000003, impl.Modulus - 1, -12345} {
				changed := slices.Clone(values)
				changed[i] += d
				if impl.KeyedHash(key, changed) == h {
					t.Errorf("the keyed hash with key %d does not see that value %d is changed by %d", key, i, d)
				}
			}
		}
		for n := range values {
			if impl.KeyedHash(key, values[:n]) == h || impl.KeyedHash(key, values[n+1:]) == h {
				t.Errorf("the keyed hash with key %d does not see that values are left out at %d", key, n)
			}
		}
		if impl.KeyedHash(key+1, values) == h || impl.KeyedHash(-key, values) == h {
			t.Errorf("another key than %d gives the same hash", key)
		}
	}
}

func TestKeyedHashLeavesItsArgumentAlone(t *testing.T) {
	under := []int{1, 2, 3, -7, -7, -7}
	impl.KeyedHash(5, under[:3])
	impl.KeyedHash(5, under[:0])
	if !slices.Equal(under, []int{1, 2, 3, -7, -7, -7}) {
		t.Errorf("KeyedHash changed the array to %v", under)
	}
}

func TestIsValidKey(t *testing.T) {
	for _, key := range []int{1, 2, 77, 1000003, impl.Modulus - 2, impl.Modulus - 1} {
		if !impl.IsValidKey(key) {
			t.Errorf("the key %d is not valid", key)
		}
	}
	for _, key := range []int{0, -1, -77, impl.Modulus, impl.Modulus + 1, 1 - impl.Modulus, impl.MaxValue, math.MaxInt64, math.MinInt64} {
		if impl.IsValidKey(key) {
			t.Errorf("the key %d is valid", key)
		}
	}
}

func TestBytesToInts(t *testing.T) {
	cases := []struct {
		b    []byte
		want []int
	}{
		{nil, []int{0}},
		{[]byte{}, []int{0}},
		{[]byte{0}, []int{1, 0}},
		{[]byte{9, 8}, []int{2, 9, 8}},
		{[]byte{127, 128, 255, 0}, []int{4, 127, 128, 255, 0}},
		{[]byte("\u00e4"), []int{2, 195, 164}},
	}
	for _, c := range cases {
		if got := impl.BytesToInts(c.b); !slices.Equal(got, c.want) {
			t.Errorf("BytesToInts(%v) is %v, want %v", c.b, got, c.want)
		}
	}
	for _, b := range texts() {
		part, under := spacious(b)
		before := slices.Clone(under)
		got := impl.BytesToInts(part)
		if len(got) != len(b)+1 || got[0] != len(b) || !bytes.Equal(under, before) {
			t.Errorf("BytesToInts(%v) is %v, and the array is %v", b, got, under)
		}
		for i, c := range b {
			if got[i+1] != int(c) {
				t.Errorf("BytesToInts(%v) has %d for the byte %d", b, got[i+1], i)
			}
		}
	}
}

func TestEncryptAddsTheKeyStream(t *testing.T) {
	for _, key := range append([]int{77, 78}, hashed...) {
		for _, b := range texts() {
			code := impl.Encrypt(key, b)
			if len(code) != len(b) {
				t.Fatalf("Encrypt(%d) of %d bytes has %d bytes", key, len(b), len(code))
			}
			for i := range b {
				if want := (int(b[i]) + bigHash(key, i, key)) % 256; int(code[i]) != want {
					t.Fatalf("Encrypt(%d, %v) has the byte %d at %d, want %d", key, b, code[i], i, want)
				}
			}
		}
	}
}

func TestDecryptSubtractsTheKeyStream(t *testing.T) {
	for _, key := range append([]int{77, 78}, hashed...) {
		for _, b := range texts() {
			plain := impl.Decrypt(key, b)
			if len(plain) != len(b) {
				t.Fatalf("Decrypt(%d) of %d bytes has %d bytes", key, len(b), len(plain))
			}
			for i := range b {
				if want := (int(b[i]) + 256 - bigHash(key, i, key)%256) % 256; int(plain[i]) != want {
					t.Fatalf("Decrypt(%d, %v) has the byte %d at %d, want %d", key, b, plain[i], i, want)
				}
			}
		}
	}
}

func TestDecryptInvertsEncrypt(t *testing.T) {
	for _, key := range append([]int{77, 78}, hashed...) {
		for _, b := range texts() {
			if got := impl.Decrypt(key, impl.Encrypt(key, b)); !bytes.Equal(got, b) {
				t.Errorf("with key %d, %v comes back as %v", key, b, got)
			}
			if got := impl.Encrypt(key, impl.Decrypt(key, b)); !bytes.Equal(got, b) {
				t.Errorf("with key %d, %v goes back to %v", key, b, got)
			}
		}
	}
}

func TestOnlyTheKeyDecrypts(t *testing.T) {
	b := []byte("nobody meets twice")
	for _, key := range []int{1, 2, 77, 1000003, impl.Modulus - 2} {
		code := impl.Encrypt(key, b)
		if bytes.Equal(code, b) {
			t.Errorf("key %d changes nothing", key)
		}
		for _, other := range []int{key + 1, key - 1, -key, 2 * key, 0} {
			if bytes.Equal(impl.Decrypt(other, code), b) {
				t.Errorf("key %d decrypts what key %d encrypted", other, key)
			}
		}
	}
}

func TestCiphersAreApartFromTheirArguments(t *testing.T) {
	for _, b := range texts() {
		part, under := spacious(b)
		before := slices.Clone(under)
		code, plain := impl.Encrypt(5, part), impl.Decrypt(5, part)
		if !bytes.Equal(under, before) {
			t.Errorf("the argument %v became %v", b, under)
		}
		expectApart(t, code, under)
		expectApart(t, plain, under)
	}
}

func TestDeriveFromString(t *testing.T) {
	for _, key := range hashed {
		for _, label := range []string{"", "a", "ab", "ba", "a b", "\x00", "\x00\x00", "k\u00e4se", "\xff\xfe", strings.Repeat("x", 1000)} {
			values := []int{key, len(label)}
			for i := range len(label) {
				values = append(values, int(label[i]))
			}
			want := bigHash(append(values, key)...)
			if want == 0 {
				want = 1
			}
			if got := impl.DeriveFromString(key, label); got != want {
				t.Errorf("DeriveFromString(%d, %q) is %d, want %d", key, label, got, want)
			}
		}
	}
	if impl.DeriveFromString(5, "") != impl.Hash([]int{5, 0, 5}) {
		t.Error("the key of the empty label is not that of the length 0")
	}
}

// keyWithHash returns the key with which the keyed hash of values is h: a keyed hash grows by the same with each key.
func keyWithHash(h int, values []int) int {
	p := big.NewInt(2147483647)
	first := big.NewInt(int64(bigHash(keyed(0, values)...)))
	growth := new(big.Int).Sub(big.NewInt(int64(bigHash(keyed(1, values)...))), first)
	growth.ModInverse(growth.Mod(growth, p), p)
	key := new(big.Int).Sub(big.NewInt(int64(h)), first)
	key.Mul(key, growth)
	return int(key.Mod(key, p).Int64())
}

func TestDeriveFromStringNeverGivesZero(t *testing.T) {
	for _, label := range []string{"", "a", "seal", "\xff\x00"} {
		values := impl.BytesToInts([]byte(label))
		for h, want := range map[int]int{0: 1, 1: 1, 2: 2, impl.Modulus - 1: impl.Modulus - 1} {
			key := keyWithHash(h, values)
			for _, same := range []int{key, key + impl.Modulus, key - impl.Modulus} {
				if got := impl.KeyedHash(same, values); got != h {
					t.Fatalf("KeyedHash(%d, %v) is %d, want %d", same, values, got, h)
				}
				if got := impl.DeriveFromString(same, label); got != want || !impl.IsValidKey(got) {
					t.Errorf("DeriveFromString(%d, %q) is %d, want %d", same, label, got, want)
				}
			}
		}
	}
}

func TestEqualInts(t *testing.T) {
	cases := []struct {
		a, b []int
		want bool
	}{
		{nil, nil, true},
		{nil, []int{}, true},
		{[]int{0}, []int{0}, true},
		{[]int{1, -2, 3}, []int{1, -2, 3}, true},
		{[]int{math.MinInt64, math.MaxInt64}, []int{math.MinInt64, math.MaxInt64}, true},
		{[]int{0}, nil, false},
		{[]int{1, 2}, []int{1, 2, 0}, false},
		{[]int{1, 2}, []int{2, 1}, false},
		{[]int{9, 2}, []int{1, 2}, false},
		{[]int{1, 2}, []int{1, 3}, false},
		{[]int{256}, []int{0}, false},
		{[]int{5}, []int{-5}, false},
	}
	for _, c := range cases {
		if impl.EqualInts(c.a, c.b) != c.want || impl.EqualInts(c.b, c.a) != c.want {
			t.Errorf("EqualInts(%v, %v) is not %v both ways", c.a, c.b, c.want)
		}
	}
}
