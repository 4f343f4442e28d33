package num

import (
	"bytes"
	"math"
	"math/big"
	"math/rand"
	"testing"
)

// The sizes, bits and shifts that the tests go through hold those that Go has,
// their neighbours, and numbers far outside on both sides.
var (
	oddSizes = []int{-1, -2, -8, -64, 9, 10, 16, 64, 1 << 40, math.MaxInt, math.MinInt, math.MinInt + 1}
	goBits   = []int{8, 16, 32, 64}
	oddBits  = []int{0, 1, 7, 9, 15, 17, 24, 31, 33, 48, 63, 65, 128, 256 + 8, 1<<32 + 16, -1, -8, -16, -32, -64, math.MaxInt, math.MinInt}
	farAway  = []int{127, 128, 129, 192, 255, 256, 257, 1 << 16, 1<<31 - 1, 1 << 31, 1 << 32, 1<<32 + 1, 1 << 62, math.MaxInt - 1, math.MaxInt}
)

// shifts is all numbers from -200 to 200, those far away, and the least ints.
func shifts() []int {
	list := []int{math.MinInt, math.MinInt + 1, math.MinInt + 63, math.MinInt + 64}
	for _, k := range farAway {
		list = append(list, k, -k)
	}
	for k := -200; k <= 200; k++ {
		list = append(list, k)
	}
	return list
}

// words is the numbers at every end, and some anywhere.
func words() []uint64 {
	list := []uint64{0, 1, 2, 3, 5, 1<<63 | 6, 0x0102030405060708, 0xfedcba9876543210, math.MaxUint64, math.MaxUint64 - 1}
	for k := range 64 {
		one := uint64(1) << k
		list = append(list, one, one-1, one+1, -one, ^one)
	}
	random := rand.New(rand.NewSource(1))
	for range 200 {
		list = append(list, random.Uint64(), random.Uint64()>>random.Intn(64))
	}
	return list
}

// power is 2 to the k.
func power(k int) *big.Int {
	return new(big.Int).Lsh(big.NewInt(1), uint(k))
}

// wrapped is n less that multiple of 2^64 that makes a word of it.
func wrapped(n *big.Int) uint64 {
	return new(big.Int).Mod(n, power(64)).Uint64()
}

func TestPutOfKnownNumbers(t *testing.T) {
	cases := []struct {
		n    uint64
		size int
		want string
	}{
		{0, 0, ""}, {5, 0, ""}, {math.MaxUint64, 0, ""},
		{0, 1, "\x00"}, {5, 1, "\x05"}, {0x0105, 1, "\x05"}, {0x0100, 1, "\x00"},
		{0x010203, 2, "\x02\x03"}, {0x010203, 3, "\x01\x02\x03"}, {0x010203, 4, "\x00\x01\x02\x03"},
		{0x0102030405060708, 7, "\x02\x03\x04\x05\x06\x07\x08"},
		{0x0102030405060708, 8, "\x01\x02\x03\x04\x05\x06\x07\x08"},
		{1 << 63, 8, "\x80\x00\x00\x00\x00\x00\x00\x00"}, {1 << 63, 7, "\x00\x00\x00\x00\x00\x00\x00"},
		{math.MaxUint64, 8, "\xff\xff\xff\xff\xff\xff\xff\xff"},
	}
	for _, c := range cases {
		if got := Put(c.n, c.size); string(got) != c.want {
			t.Errorf("P4.1: Put(%x, %d): %x, want %x", c.n, c.size, got, c.want)
		}
	}
}

func TestPutOfAllSizes(t *testing.T) {
	for _, n := range words() {
		for size := range 9 {
			rest := new(big.Int).Mod(new(big.Int).SetUint64(n), power(8*size))
			want := rest.FillBytes(make([]byte, size))
			if got := Put(n, size); !bytes.Equal(got, want) {
				t.Errorf("P4.1: Put(%x, %d): %x, want %x", n, size, got, want)
			}
		}
	}
}

func TestPutOfOtherSizes(t *testing.T) {
	for _, n := range []uint64{0, 5, math.MaxUint64} {
		for _, size := range oddSizes {
			if got := Put(n, size); len(got) != 0 {
				t.Errorf("P4.1: Put(%x, %d): %x, want none", n, size, got)
			}
		}
	}
}

func TestPutAnswersNewMemory(t *testing.T) {
	for size := range 9 {
		first, second := Put(0x0102030405060708, size), Put(0x0102030405060708, size)
		want := bytes.Clone(second)
		for i := range first[:cap(first)] {
			first[:cap(first)][i] = 0xee
		}
		if third := Put(0x0102030405060708, size); !bytes.Equal(second, want) || !bytes.Equal(third, want) {
			t.Errorf("P0.3: an answer of %d bytes that was written to changes another: %x, %x", size, second, third)
		}
	}
}

func TestGetOfKnownBytes(t *testing.T) {
	cases := []struct {
		b    []byte
		want uint64
	}{
		{nil, 0}, {[]byte{}, 0}, {[]byte{0}, 0}, {[]byte{7}, 7}, {[]byte{255}, 255},
		{[]byte{1, 2, 3}, 0x010203}, {[]byte{0, 0, 3}, 3}, {[]byte{3, 0, 0}, 0x030000},
		{[]byte{1, 2, 3, 4, 5, 6, 7}, 0x01020304050607},
		{[]byte{1, 2, 3, 4, 5, 6, 7, 8}, 0x0102030405060708},
		{[]byte{1, 2, 3, 4, 5, 6, 7, 8, 9}, 0x0203040506070809},
		{[]byte{128, 0, 0, 0, 0, 0, 0, 0}, 1 << 63},
		{[]byte{128, 0, 0, 0, 0, 0, 0, 0, 0}, 0},
		{bytes.Repeat([]byte{255}, 8), math.MaxUint64},
		{bytes.Repeat([]byte{255}, 100), math.MaxUint64},
	}
	for _, c := range cases {
		if got := Get(c.b); got != c.want {
			t.Errorf("P4.1: Get(%x): %x, want %x", c.b, got, c.want)
		}
	}
}

func TestGetOfAllLengths(t *testing.T) {
	b := make([]byte, 1<<16)
	rand.New(rand.NewSource(2)).Read(b)
	for n := range 300 {
		for at := range 10 {
			piece := b[at : at+n]
			want := new(big.Int).SetBytes(piece[max(0, n-8):]).Uint64()
			if got := Get(piece); got != want {
				t.Errorf("P4.1: Get of %d bytes: %x, want %x", n, got, want)
			}
		}
	}
	if got, want := Get(b), new(big.Int).SetBytes(b[len(b)-8:]).Uint64(); got != want {
		t.Errorf("P4.1: Get of %d bytes: %x, want %x", len(b), got, want)
	}
}

func TestGetIsTheWayBack(t *testing.T) {
	for _, n := range words() {
		for size := range 9 {
			want := new(big.Int).Mod(new(big.Int).SetUint64(n), power(8*size)).Uint64()
			if got := Get(Put(n, size)); got != want {
				t.Errorf("P4.1: Get of Put(%x, %d): %x, want %x", n, size, got, want)
			}
		}
	}
}

// The bytes lie within a longer list, so that writing into their spare room
// would be seen.
func TestGetLeavesItsBytes(t *testing.T) {
	for n := range 20 {
		room := make([]byte, 40)
		rand.New(rand.NewSource(3)).Read(room)
		before := bytes.Clone(room)
		first := Get(room[:n])
		if !bytes.Equal(room, before) {
			t.Errorf("P0.3: Get of %d bytes changes what was handed in", n)
		}
		clear(room)
		if Get(before[:n]) != first {
			t.Errorf("P0.5: Get of the same %d bytes answers something else", n)
		}
	}
}

func TestCutOfKnownNumbers(t *testing.T) {
	cases := []struct {
		n      int64
		bits   int
		signed bool
		want   int64
		fits   bool
	}{
		{127, 8, true, 127, true}, {128, 8, true, -128, false}, {-128, 8, true, -128, true}, {-129, 8, true, 127, false},
		{255, 8, false, 255, true}, {256, 8, false, 0, false}, {0, 8, false, 0, true}, {-1, 8, false, 255, false},
		{255, 8, true, -1, false}, {-256, 8, true, 0, false}, {-256, 8, false, 0, false},
		{32767, 16, true, 32767, true}, {32768, 16, true, -32768, false}, {-32768, 16, true, -32768, true}, {-32769, 16, true, 32767, false},
		{65535, 16, false, 65535, true}, {65536, 16, false, 0, false}, {0, 16, false, 0, true}, {-1, 16, false, 65535, false},
		{1<<31 - 1, 32, true, 1<<31 - 1, true}, {1 << 31, 32, true, -1 << 31, false}, {-1 << 31, 32, true, -1 << 31, true}, {-1<<31 - 1, 32, true, 1<<31 - 1, false},
		{1<<32 - 1, 32, false, 1<<32 - 1, true}, {1 << 32, 32, false, 0, false}, {0, 32, false, 0, true}, {-1, 32, false, 1<<32 - 1, false},
		{math.MaxInt64, 64, true, math.MaxInt64, true}, {math.MinInt64, 64, true, math.MinInt64, true}, {-1, 64, true, -1, true}, {0, 64, true, 0, true},
		{math.MaxInt64, 64, false, math.MaxInt64, true}, {math.MinInt64, 64, false, math.MinInt64, false}, {-1, 64, false, -1, false}, {0, 64, false, 0, true},
		{math.MaxInt64, 32, true, -1, false}, {math.MaxInt64, 32, false, 1<<32 - 1, false}, {math.MinInt64, 32, true, 0, false}, {math.MinInt64, 8, false, 0, false},
	}
	for _, c := range cases {
		if got, fits := Cut(c.n, c.bits, c.signed), Fits(c.n, c.bits, c.signed); got != c.want || fits != c.fits {
			t.Errorf("P4.2: %d to %d bits, signed %v: Cut %d, Fits %v, want %d, %v", c.n, c.bits, c.signed, got, fits, c.want, c.fits)
		}
	}
}

// cutOf is the number that n stands for in so many bits, reckoned without any
// conversion.
func cutOf(n int64, bits int, signed bool) *big.Int {
	cut := new(big.Int).Mod(big.NewInt(n), power(bits))
	if signed && cut.Cmp(power(bits-1)) >= 0 {
		cut.Sub(cut, power(bits))
	}
	return cut
}

func TestCutAndFitsOfGoBits(t *testing.T) {
	for _, w := range words() {
		n := int64(w)
		for _, bits := range goBits {
			for _, signed := range []bool{false, true} {
				want := cutOf(n, bits, signed)
				if got := Cut(n, bits, signed); got != int64(wrapped(want)) {
					t.Errorf("P4.2: Cut(%d, %d, %v): %d, want %v", n, bits, signed, got, want)
				}
				fits := want.Cmp(big.NewInt(n)) == 0
				if got := Fits(n, bits, signed); got != fits {
					t.Errorf("P4.2: Fits(%d, %d, %v): %v, want %v", n, bits, signed, got, fits)
				}
			}
		}
	}
}

func TestCutAndFitsOfOtherBits(t *testing.T) {
	for _, w := range words() {
		n := int64(w)
		for _, bits := range oddBits {
			for _, signed := range []bool{false, true} {
				if got := Cut(n, bits, signed); got != 0 {
					t.Errorf("P4.2: Cut(%d, %d, %v): %d, want 0", n, bits, signed, got)
				}
				if got := Fits(n, bits, signed); got != (n == 0) {
					t.Errorf("P4.2: Fits(%d, %d, %v): %v", n, bits, signed, got)
				}
			}
		}
	}
}

func TestShiftsOfKnownNumbers(t *testing.T) {
	cases := []struct {
		k     int
		left  uint64
		right int64
	}{
		{0, 1<<63 | 6, -6}, {1, 12, -3}, {2, 24, -2}, {3, 48, -1}, {63, 0, -1}, {64, 0, -1}, {65, 0, -1}, {1 << 40, 0, -1}, {math.MaxInt, 0, -1},
		{-1, 1<<62 | 3, -12}, {-2, 1<<61 | 1, -24}, {-62, 2, math.MinInt64}, {-63, 1, 0}, {-64, 0, 0}, {-65, 0, 0}, {-1 << 40, 0, 0}, {math.MinInt + 1, 0, 0}, {math.MinInt, 0, 0},
	}
	for _, c := range cases {
		if left, right := Left(1<<63|6, c.k), Right(-6, c.k); left != c.left || right != c.right {
			t.Errorf("P4.2: by %d: Left %x, Right %d, want %x, %d", c.k, left, right, c.left, c.right)
		}
	}
}

// shifted is n times 2 to the k, rounded down. Far away it stops at a shift
// that leaves no bit where it was.
func shifted(n *big.Int, k int) uint64 {
	k = min(max(k, -1000), 1000)
	if k < 0 {
		return wrapped(new(big.Int).Rsh(n, uint(-k)))
	}
	return wrapped(new(big.Int).Lsh(n, uint(k)))
}

func TestLeftAndRightByAllShifts(t *testing.T) {
	for _, n := range words() {
		for _, k := range shifts() {
			if got, want := Left(n, k), shifted(new(big.Int).SetUint64(n), k); got != want {
				t.Fatalf("P4.2: Left(%x, %d): %x, want %x", n, k, got, want)
			}
			other := 1000
			if k > -1000 {
				other = -k
			}
			if got, want := Right(int64(n), k), int64(shifted(big.NewInt(int64(n)), other)); got != want {
				t.Fatalf("P4.2: Right(%d, %d): %d, want %d", int64(n), k, got, want)
			}
		}
	}
}

// turnedByHand takes each bit to its place, one by one.
func turnedByHand(n uint64, k int) uint64 {
	turned := new(big.Int)
	word := new(big.Int).SetUint64(n)
	for at := range 64 {
		to := (at + k%64 + 64) % 64
		turned.SetBit(turned, to, word.Bit(at))
	}
	return turned.Uint64()
}

func TestTurnByAllShifts(t *testing.T) {
	for _, n := range words()[:120] {
		for _, k := range shifts() {
			if got, want := Turn(n, k), turnedByHand(n, k); got != want {
				t.Fatalf("P4.2: Turn(%x, %d): %x, want %x", n, k, got, want)
			}
		}
	}
}

func TestTurnOfKnownNumbers(t *testing.T) {
	cases := []struct {
		k    int
		want uint64
	}{
		{0, 1<<63 | 6}, {1, 13}, {-1, 1<<62 | 3}, {63, 1<<62 | 3}, {-63, 13}, {64, 1<<63 | 6}, {-64, 1<<63 | 6}, {65, 13}, {-65, 1<<62 | 3},
		{32, 6<<32 | 1<<31}, {-32, 6<<32 | 1<<31}, {math.MaxInt, 1<<62 | 3}, {math.MinInt, 1<<63 | 6}, {math.MinInt + 1, 13},
	}
	for _, c := range cases {
		if got := Turn(1<<63|6, c.k); got != c.want {
			t.Errorf("P4.2: Turn by %d: %x, want %x", c.k, got, c.want)
		}
	}
}

func TestMaskOfAllBits(t *testing.T) {
	for from := -70; from <= 140; from++ {
		for to := -70; to <= 140; to++ {
			want := uint64(0)
			if 0 <= from && from < to && to <= 64 {
				want = new(big.Int).Sub(power(to), power(from)).Uint64()
			}
			if got := Mask(from, to); got != want {
				t.Errorf("P4.2: Mask(%d, %d): %x, want %x", from, to, got, want)
			}
		}
	}
}

func TestMaskOfKnownBits(t *testing.T) {
	cases := []struct {
		from, to int
		want     uint64
	}{
		{0, 0, 0}, {0, 1, 1}, {0, 8, 0xff}, {4, 8, 0xf0}, {0, 63, math.MaxInt64}, {0, 64, math.MaxUint64}, {1, 64, math.MaxUint64 - 1}, {63, 64, 1 << 63},
		{64, 64, 0}, {5, 5, 0}, {6, 5, 0}, {64, 0, 0}, {-1, 5, 0}, {-1, 64, 0}, {0, 65, 0}, {63, 65, 0}, {64, 65, 0}, {-5, -1, 0}, {0, -1, 0}, {65, 66, 0},
	}
	for _, c := range cases {
		if got := Mask(c.from, c.to); got != c.want {
			t.Errorf("P4.2: Mask(%d, %d): %x, want %x", c.from, c.to, got, c.want)
		}
	}
}

func TestMaskFarOutside(t *testing.T) {
	ends := []int{math.MinInt, math.MinInt + 1, -1 << 32, 1 << 32, 1<<32 + 8, math.MaxInt}
	for _, far := range ends {
		for _, near := range []int{0, 1, 63, 64} {
			if Mask(far, near) != 0 || Mask(near, far) != 0 {
				t.Errorf("P4.2: Mask of %d and %d: %x, %x, want 0", far, near, Mask(far, near), Mask(near, far))
			}
		}
		for _, other := range ends {
			if got := Mask(far, other); got != 0 {
				t.Errorf("P4.2: Mask(%d, %d): %x, want 0", far, other, got)
			}
		}
	}
}
