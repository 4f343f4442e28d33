package mac

import (
	"bytes"
	"crypto/hmac"
	"crypto/sha256"
	"encoding/hex"
	"math/rand"
	"strings"
	"testing"
)

// textOf is n bytes, the same ones for the same seed.
func textOf(seed int64, n int) []byte {
	b := make([]byte, n)
	rand.New(rand.NewSource(seed)).Read(b)
	return b
}

// wanted is the tag as another implementation makes it.
func wanted(key, b []byte) [32]byte {
	h := hmac.New(sha256.New, key)
	h.Write(b)
	return [32]byte(h.Sum(nil))
}

func TestSumOfKnownTexts(t *testing.T) {
	cases := []struct{ name, key, text, want string }{
		{"a key of 20 bytes", strings.Repeat("\x0b", 20), "Hi There", "b0344c61d8db38535ca8afceaf0bf12b881dc200c9833da726e9376c2e32cff7"},
		{"a key of 4 bytes", "Jefe", "what do ya want for nothing?", "5bdcc146bf60754e6a042426089575c75a003f089d2739839dec58b964ec3843"},
		{"50 bytes", strings.Repeat("\xaa", 20), strings.Repeat("\xdd", 50), "773ea91e36800e46854db8ebd09181a72959098b3ef8c122d9635514ced565fe"},
		{"a key of 25 bytes", "\x01\x02\x03\x04\x05\x06\x07\x08\x09\x0a\x0b\x0c\x0d\x0e\x0f\x10\x11\x12\x13\x14\x15\x16\x17\x18\x19", strings.Repeat("\xcd", 50), "82558a389a443c0ea4cc819899f2083a85f0faa3e578f8077a2e3ff46729665b"},
		{"a key of 131 bytes", strings.Repeat("\xaa", 131), "Test Using Larger Than Block-Size Key - Hash Key First", "60e431591ee0b67f0d8a26aacbf5b77f8e0bc6213728c5140546040f0ee37f54"},
		{"a long text, a key of 131 bytes", strings.Repeat("\xaa", 131), "This is a test using a larger than block-size key and a larger than block-size data. The key needs to be hashed before being used by the HMAC algorithm.", "9b09ffa71b942fcb27635fbcd5b0e944bfdc63644f0713938a7f51535c3a35e2"},
		{"nothing by nothing", "", "", "b613679a0814d9ec772f95d778c35fc5ff1697c493715653c6c712144292c5ad"},
	}
	for _, c := range cases {
		sum := Sum([]byte(c.key), []byte(c.text))
		if got := hex.EncodeToString(sum[:]); got != c.want {
			t.Errorf("P3.1: Sum of %s: %s, want %s", c.name, got, c.want)
		}
	}
}

// A key is taken as it is up to a block of 64 bytes, and by its digest beyond.
func TestSumByKeysOfAllLengths(t *testing.T) {
	for n := range 300 {
		b := textOf(1, 100)
		for _, key := range [][]byte{textOf(int64(n), n), make([]byte, n), bytes.Repeat([]byte{255}, n)} {
			if got, want := Sum(key, b), wanted(key, b); got != want {
				t.Fatalf("P3.1: Sum by a key of %d bytes: %x, want %x", n, got, want)
			}
		}
	}
}

func TestSumOfAllLengths(t *testing.T) {
	for n := range 300 {
		b := textOf(int64(n), n)
		for _, size := range []int{0, 1, 32, 63, 64, 65, 200} {
			key := textOf(2, size)
			if got, want := Sum(key, b), wanted(key, b); got != want {
				t.Fatalf("P3.1: Sum of %d bytes by a key of %d: %x, want %x", n, size, got, want)
			}
		}
	}
}

func TestSumOfLongTexts(t *testing.T) {
	for _, n := range []int{1<<16 - 1, 1 << 16, 1<<20 + 1, 1<<22 - 9} {
		long, short := textOf(3, n), textOf(4, 40)
		if Sum(short, long) != wanted(short, long) {
			t.Errorf("P3.1: Sum of %d bytes is wrong", n)
		}
		if Sum(long, short) != wanted(long, short) {
			t.Errorf("P3.1: Sum by a key of %d bytes is wrong", n)
		}
	}
}

func TestCheckOfTheTag(t *testing.T) {
	for _, size := range []int{0, 1, 32, 63, 64, 65, 200} {
		for _, n := range []int{0, 1, 63, 64, 65, 1000} {
			key, b := textOf(5, size), textOf(6, n)
			tag := wanted(key, b)
			if !Check(key, b, tag[:]) {
				t.Errorf("P3.1: Check of the tag of %d bytes by a key of %d says false", n, size)
			}
		}
	}
}

func TestCheckOfOneBitAmiss(t *testing.T) {
	key, b := textOf(7, 32), textOf(8, 100)
	tag := Sum(key, b)
	for bit := range 8 * len(tag) {
		tag[bit/8] ^= 1 << (bit % 8)
		if Check(key, b, tag[:]) {
			t.Errorf("P3.1: Check of a tag with bit %d amiss says true", bit)
		}
		tag[bit/8] ^= 1 << (bit % 8)
	}
	if !Check(key, b, tag[:]) {
		t.Errorf("P3.1: Check of the tag says false")
	}
}

// Bytes that are amiss by the same bits must not make up for one another.
func TestCheckOfSeveralBytesAmiss(t *testing.T) {
	key, b := textOf(7, 32), textOf(8, 100)
	for i := range 32 {
		for j := range i {
			tag := Sum(key, b)
			tag[i] ^= 0x80
			tag[j] ^= 0x80
			if Check(key, b, tag[:]) {
				t.Errorf("P3.1: Check of a tag with bytes %d and %d amiss says true", j, i)
			}
		}
	}
	tag := Sum(key, b)
	for i := range tag {
		tag[i] = ^tag[i]
	}
	if Check(key, b, tag[:]) || Check(key, b, make([]byte, 32)) {
		t.Errorf("P3.1: Check of a tag with all bytes amiss says true")
	}
}

func TestCheckOfOtherLengths(t *testing.T) {
	key, b := textOf(9, 32), textOf(10, 100)
	tag := Sum(key, b)
	for n := range 32 {
		if Check(key, b, tag[:n]) || Check(key, b, tag[32-n:]) {
			t.Errorf("P3.1: Check of %d bytes of the tag says true", n)
		}
	}
	for n := 33; n <= 100; n++ {
		ahead := append(make([]byte, n-32), tag[:]...)
		behind := append(tag[:], make([]byte, n-32)...)
		if Check(key, b, ahead) || Check(key, b, behind) {
			t.Errorf("P3.1: Check of the tag among %d bytes says true", n)
		}
	}
	twice := append(append([]byte{}, tag[:]...), tag[:]...)
	if Check(key, b, twice) || Check(key, b, nil) || Check(nil, nil, nil) {
		t.Errorf("P3.1: Check of the tag twice, or of no tag, says true")
	}
	if Check(key, b, []byte(hex.EncodeToString(tag[:]))) {
		t.Errorf("P3.1: Check of the tag's digits says true")
	}
}

func TestCheckOfAnothersTag(t *testing.T) {
	key, b := textOf(11, 32), textOf(12, 100)
	plain := sha256.Sum256(append(append([]byte{}, key...), b...))
	others := map[string][32]byte{
		"another text":            Sum(key, b[:99]),
		"no text":                 Sum(key, nil),
		"another key":             Sum(key[:31], b),
		"no key":                  Sum(nil, b),
		"key and text changed":    Sum(b, key),
		"a byte moved to the key": Sum(append(append([]byte{}, key...), b[0]), b[1:]),
		"a digest without a mask": plain,
	}
	for name, tag := range others {
		if Check(key, b, tag[:]) {
			t.Errorf("P3.1: Check of the tag of %s says true", name)
		}
	}
}

func TestNilIsTheSameAsEmpty(t *testing.T) {
	for _, key := range [][]byte{nil, {}} {
		for _, b := range [][]byte{nil, {}} {
			tag := Sum(key, b)
			if tag != wanted(nil, nil) || !Check(key, b, tag[:]) || Check(key, b, nil) || Check(key, b, []byte{}) {
				t.Errorf("P0.4: a nil list is not the same as an empty one")
			}
		}
	}
}

// The lists lie within longer ones, so that writing into their spare room would
// be seen.
func TestArgumentsStay(t *testing.T) {
	for _, size := range []int{0, 1, 63, 64, 65, 200} {
		key, b, tag := textOf(13, 300), textOf(14, 300), textOf(15, 300)
		right := wanted(key[:size], b[:100])
		copy(tag, right[:])
		Sum(key[:size], b[:100])
		if !Check(key[:size], b[:100], tag[:32]) || Check(key[:size], b[:100], tag[:31]) {
			t.Errorf("P3.1: Check by a key of %d bytes is wrong", size)
		}
		wantTag := textOf(15, 300)
		copy(wantTag, right[:])
		if !bytes.Equal(key, textOf(13, 300)) || !bytes.Equal(b, textOf(14, 300)) || !bytes.Equal(tag, wantTag) {
			t.Errorf("P0.3: a list that was handed in is changed (key of %d bytes)", size)
		}
	}
}

func TestCallsHangOnNothingElse(t *testing.T) {
	key, b := textOf(16, 40), textOf(17, 100)
	first := Sum(key, b)
	Sum(b, key)
	Check(key, b, first[:])
	Check(b, b, first[:])
	if Sum(key, b) != first {
		t.Errorf("P0.5: the same call answers something else later")
	}
	// One list as all arguments is as good as three.
	if Sum(key, key) != wanted(key, key) || Check(key, key, key) {
		t.Errorf("P3.1: one list as several arguments is not taken as each of them")
	}
}
