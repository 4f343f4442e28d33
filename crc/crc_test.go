package crc

import (
	"bytes"
	"hash/crc32"
	"math/rand"
	"testing"
)

// bySteps reckons a sum bit by bit from the polynomial as the document has it.
func bySteps(b []byte) uint32 {
	const polynomial = 0x1edc6f41
	var poly uint32
	for i := range 32 {
		poly |= uint32(polynomial) >> i & 1 << (31 - i)
	}
	rest := ^uint32(0)
	for _, c := range b {
		rest ^= uint32(c)
		for range 8 {
			low := rest & 1
			rest >>= 1
			if low == 1 {
				rest ^= poly
			}
		}
	}
	return ^rest
}

// textOf is n bytes, the same ones for the same seed.
func textOf(seed int64, n int) []byte {
	b := make([]byte, n)
	rand.New(rand.NewSource(seed)).Read(b)
	return b
}

func rising(n int) []byte {
	b := make([]byte, n)
	for i := range b {
		b[i] = byte(i)
	}
	return b
}

func TestSumOfKnownTexts(t *testing.T) {
	falling := rising(32)
	for i := range falling {
		falling[i] = byte(31 - i)
	}
	cases := []struct {
		name string
		b    []byte
		want uint32
	}{
		{"nil", nil, 0},
		{"empty", []byte{}, 0},
		{"one letter", []byte("a"), 0xc1d04330},
		{"digits", []byte("123456789"), 0xe3069283},
		{"one zero", []byte{0}, 0x527d5351},
		{"four ones", []byte{255, 255, 255, 255}, 0xffffffff},
		{"32 zeros", make([]byte, 32), 0x8a9136aa},
		{"32 ones", bytes.Repeat([]byte{255}, 32), 0x62a8ab43},
		{"rising", rising(32), 0x46dd794e},
		{"falling", falling, 0x113fdb5c},
	}
	for _, c := range cases {
		if got := Sum(c.b); got != c.want {
			t.Errorf("P1.1: Sum of %s: %08x, want %08x", c.name, got, c.want)
		}
	}
}

func TestSumOfEachByte(t *testing.T) {
	for c := range 256 {
		b := []byte{byte(c)}
		if got, want := Sum(b), bySteps(b); got != want {
			t.Errorf("P1.1: Sum of byte %d: %08x, want %08x", c, got, want)
		}
	}
}

func TestSumOfAllLengths(t *testing.T) {
	table := crc32.MakeTable(crc32.Castagnoli)
	for n := range 1100 {
		b := textOf(int64(n), n)
		got := Sum(b)
		if want := crc32.Checksum(b, table); got != want {
			t.Fatalf("P1.1: Sum of %d bytes: %08x, want %08x", n, got, want)
		}
		if want := bySteps(b); got != want {
			t.Fatalf("P1.1: Sum of %d bytes: %08x, bit by bit %08x", n, got, want)
		}
	}
}

func TestSumOfLongTexts(t *testing.T) {
	table := crc32.MakeTable(crc32.Castagnoli)
	for _, n := range []int{1 << 16, 1<<20 + 1, 1<<24 - 1} {
		for _, b := range [][]byte{textOf(1, n), make([]byte, n), bytes.Repeat([]byte{255}, n)} {
			if got, want := Sum(b), crc32.Checksum(b, table); got != want {
				t.Errorf("P1.1: Sum of %d bytes: %08x, want %08x", n, got, want)
			}
		}
	}
}

func TestMoreAtEveryCut(t *testing.T) {
	texts := [][]byte{nil, []byte("123456789"), make([]byte, 70), bytes.Repeat([]byte{255}, 70), textOf(2, 600)}
	for _, b := range texts {
		whole := Sum(b)
		for n := range len(b) + 1 {
			if got := More(Sum(b[:n]), b[n:]); got != whole {
				t.Errorf("P1.1: More of %d bytes cut at %d: %08x, want %08x", len(b), n, got, whole)
			}
		}
	}
}

func TestMoreInManyPieces(t *testing.T) {
	b := textOf(3, 5000)
	for _, size := range []int{1, 2, 3, 7, 64, 1000, 4999} {
		s := Sum(nil)
		for at := 0; at < len(b); at += size {
			s = More(s, b[at:min(at+size, len(b))])
		}
		if s != Sum(b) {
			t.Errorf("P1.1: More in pieces of %d: %08x, want %08x", size, s, Sum(b))
		}
	}
}

func TestMoreOfAnySum(t *testing.T) {
	table := crc32.MakeTable(crc32.Castagnoli)
	random := rand.New(rand.NewSource(4))
	sums := []uint32{0, 1, 1 << 31, 1<<31 - 1, 1<<32 - 1, 0x82f63b78}
	for range 500 {
		sums = append(sums, random.Uint32())
	}
	for i, s := range sums {
		if More(s, nil) != s || More(s, []byte{}) != s {
			t.Errorf("P1.1: More of %08x and nothing: %08x", s, More(s, nil))
		}
		b := textOf(int64(i), i%40)
		if got, want := More(s, b), crc32.Update(s, table, b); got != want {
			t.Errorf("P1.1: More of %08x and %d bytes: %08x, want %08x", s, len(b), got, want)
		}
	}
}

func TestEachBitCounts(t *testing.T) {
	b := textOf(5, 100)
	whole := Sum(b)
	for i := range len(b) * 8 {
		b[i/8] ^= 1 << (i % 8)
		if Sum(b) == whole {
			t.Errorf("P1.1: bit %d does not change the sum", i)
		}
		b[i/8] ^= 1 << (i % 8)
	}
	if Sum(append([]byte{0}, b...)) == whole || Sum(append(b[:len(b):len(b)], 0)) == whole {
		t.Errorf("P1.1: a zero at an end does not change the sum")
	}
}

func TestArgumentsStay(t *testing.T) {
	room := textOf(6, 300)
	before := bytes.Clone(room)
	first := Sum(room[:100])
	after := More(first, room[100:200])
	if !bytes.Equal(room, before) {
		t.Errorf("P0.3: a text that was handed in, or its spare room, is changed")
	}
	if Sum(before[:100]) != first || More(first, before[100:200]) != after {
		t.Errorf("P0.5: the same arguments have another answer")
	}
	room[0] ^= 1
	if Sum(room[:100]) == first || Sum(before[:100]) != first {
		t.Errorf("P0.3: a text that was handed in is kept")
	}
}
