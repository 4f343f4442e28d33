package sha

import (
	"bytes"
	"crypto/sha256"
	"math/rand"
	"strings"
	"testing"
)

// textOf is n bytes, the same ones for the same seed.
func textOf(seed int64, n int) []byte {
	b := make([]byte, n)
	rand.New(rand.NewSource(seed)).Read(b)
	return b
}

// inPieces is the Sum of b, written to a new Hash in pieces of a size.
func inPieces(b []byte, size int) [32]byte {
	h := New()
	for at := 0; at < len(b); at += size {
		h.Write(b[at:min(at+size, len(b))])
	}
	return h.Sum()
}

func TestSumOfKnownTexts(t *testing.T) {
	cases := []struct{ name, text, want string }{
		{"nothing", "", "e3b0c44298fc1c149afbf4c8996fb92427ae41e4649b934ca495991b7852b855"},
		{"three letters", "abc", "ba7816bf8f01cfea414140de5dae2223b00361a396177a9cb410ff61f20015ad"},
		{"56 letters", "abcdbcdecdefdefgefghfghighijhijkijkljklmklmnlmnomnopnopq", "248d6a61d20638b8e5c026930c3e6039a33ce45964ff2167f6ecedd419db06c1"},
		{"112 letters", "abcdefghbcdefghicdefghijdefghijkefghijklfghijklmghijklmnhijklmnoijklmnopjklmnopqklmnopqrlmnopqrsmnopqrstnopqrstu", "cf5b16a778af8380036ce59e7b0492370b249b11e8f07a51afac45037afee9d1"},
		{"a million", strings.Repeat("a", 1000000), "cdc76e5c9914fb9281a1c7e284d73e67f1809a48a497200e046d39ccc7112cd0"},
	}
	for _, c := range cases {
		sum := Sum([]byte(c.text))
		if got := Hex(sum[:]); got != c.want {
			t.Errorf("P2.1: Sum of %s: %s, want %s", c.name, got, c.want)
		}
	}
	if Sum(nil) != Sum([]byte{}) {
		t.Errorf("P0.4: Sum of nil is not that of an empty list")
	}
}

// The lengths go well past several blocks, so that the padding takes each of
// its lengths, in the last block and in one more.
func TestSumOfAllLengths(t *testing.T) {
	for n := range 700 {
		for _, b := range [][]byte{textOf(int64(n), n), make([]byte, n), bytes.Repeat([]byte{255}, n)} {
			if Sum(b) != sha256.Sum256(b) {
				t.Fatalf("P2.1: Sum of %d bytes: %x, want %x", n, Sum(b), sha256.Sum256(b))
			}
		}
	}
}

func TestSumOfLongTexts(t *testing.T) {
	for _, n := range []int{1<<16 - 1, 1 << 16, 1<<20 + 1, 1<<24 - 9} {
		b := textOf(1, n)
		if Sum(b) != sha256.Sum256(b) {
			t.Errorf("P2.1: Sum of %d bytes: %x, want %x", n, Sum(b), sha256.Sum256(b))
		}
	}
}

// A text of more than 2^29 bytes has more than 2^32 bits: its length needs
// both words of the padding.
func TestSumOfMoreBitsThanAWordCounts(t *testing.T) {
	if testing.Short() {
		t.Skip("takes seconds")
	}
	b := textOf(2, 1<<20)
	h, other := New(), sha256.New()
	for range 513 {
		h.Write(b)
		other.Write(b)
	}
	if got := h.Sum(); !bytes.Equal(got[:], other.Sum(nil)) {
		t.Errorf("P2.1: Sum of 513 MiB: %x, want %x", got, other.Sum(nil))
	}
}

func TestWriteAtEveryCut(t *testing.T) {
	b := textOf(3, 200)
	for i := range len(b) + 1 {
		for j := i; j <= len(b); j++ {
			h := New()
			h.Write(b[:i])
			h.Write(b[i:j])
			h.Write(b[j:])
			if h.Sum() != sha256.Sum256(b) {
				t.Fatalf("P2.1: cut at %d and %d: %x, want %x", i, j, h.Sum(), sha256.Sum256(b))
			}
		}
	}
}

func TestWriteInManyPieces(t *testing.T) {
	b := textOf(4, 5000)
	for _, size := range []int{1, 2, 3, 55, 56, 63, 64, 65, 127, 128, 129, 1000, 4999, 5000} {
		if got := inPieces(b, size); got != sha256.Sum256(b) {
			t.Errorf("P2.1: in pieces of %d: %x, want %x", size, got, sha256.Sum256(b))
		}
	}
}

func TestSumAtEveryStep(t *testing.T) {
	b := textOf(5, 300)
	h := New()
	for i := range b {
		want := sha256.Sum256(b[:i])
		if h.Sum() != want || h.Sum() != want {
			t.Fatalf("P2.1: Sum ahead of byte %d is not that of what was written", i)
		}
		h.Write(b[i : i+1])
	}
	if h.Sum() != sha256.Sum256(b) {
		t.Errorf("P2.1: one may not go on writing behind a Sum")
	}
}

func TestWriteOfNothing(t *testing.T) {
	for _, n := range []int{0, 1, 63, 64, 65} {
		b := textOf(6, n)
		h := New()
		h.Write(nil)
		h.Write(b)
		h.Write([]byte{})
		h.Write(nil)
		if h.Sum() != sha256.Sum256(b) {
			t.Errorf("P2.1: writing nothing changes the Sum of %d bytes", n)
		}
	}
}

func TestNilHash(t *testing.T) {
	var h *Hash
	if h.Sum() != sha256.Sum256(nil) {
		t.Errorf("P2.1: Sum of a nil Hash: %x", h.Sum())
	}
	h.Write(nil)
	h.Write(textOf(7, 100))
	if h.Sum() != sha256.Sum256(nil) {
		t.Errorf("P2.1: Sum of a nil Hash that was written to: %x", h.Sum())
	}
}

func TestHashOfItsZeroValue(t *testing.T) {
	for _, n := range []int{0, 10, 64, 200} {
		var h Hash
		b := textOf(8, n)
		h.Write(b)
		if h.Sum() != sha256.Sum256(b) {
			t.Errorf("P2.1: Sum of a Hash not made by New, %d bytes: %x", n, h.Sum())
		}
	}
}

func TestHashesAreApart(t *testing.T) {
	a, b := textOf(9, 90), textOf(10, 150)
	first, second := New(), New()
	first.Write(a)
	second.Write(b)
	if first.Sum() != sha256.Sum256(a) || second.Sum() != sha256.Sum256(b) || New().Sum() != sha256.Sum256(nil) {
		t.Errorf("P0.5: one Hash has what was written to another")
	}
	third := *first
	third.Write(b)
	if first.Sum() != sha256.Sum256(a) || third.Sum() != sha256.Sum256(append(bytes.Clone(a), b...)) {
		t.Errorf("P0.5: a Hash and its copy are not apart")
	}
}

func TestArgumentsStay(t *testing.T) {
	room := textOf(11, 400)
	before := bytes.Clone(room)
	h := New()
	h.Write(room[:100])
	Sum(room[100:201])
	Hex(room[201:300])
	h.Sum()
	if !bytes.Equal(room, before) {
		t.Errorf("P0.3: a text that was handed in, or its spare room, is changed")
	}
	clear(room)
	if h.Sum() != sha256.Sum256(before[:100]) {
		t.Errorf("P0.3: a text that was handed in is kept")
	}
}

func TestEachBitCounts(t *testing.T) {
	b := textOf(12, 130)
	whole := Sum(b)
	for i := range len(b) * 8 {
		b[i/8] ^= 1 << (i % 8)
		if Sum(b) == whole || Sum(b) != sha256.Sum256(b) {
			t.Errorf("P2.1: bit %d: %x", i, Sum(b))
		}
		b[i/8] ^= 1 << (i % 8)
	}
}
