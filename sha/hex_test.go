package sha

import (
	"bytes"
	"encoding/hex"
	"strings"
	"testing"
)

func TestHex(t *testing.T) {
	if Hex(nil) != "" || Hex([]byte{}) != "" {
		t.Errorf("P2.1: Hex of nothing: %q, %q", Hex(nil), Hex([]byte{}))
	}
	for c := range 256 {
		b := []byte{byte(c)}
		if got, want := Hex(b), hex.EncodeToString(b); got != want {
			t.Errorf("P2.1: Hex of byte %d: %q, want %q", c, got, want)
		}
	}
	for _, n := range []int{2, 3, 32, 1000, 1 << 20} {
		b := textOf(int64(n), n)
		if Hex(b) != hex.EncodeToString(b) {
			t.Errorf("P2.1: Hex of %d bytes is wrong", n)
		}
	}
}

func TestUnhexIsTheWayBack(t *testing.T) {
	for _, n := range []int{0, 1, 2, 32, 33, 1000, 1 << 20} {
		b := textOf(int64(n), n)
		if got, ok := Unhex(Hex(b)); !ok || !bytes.Equal(got, b) {
			t.Errorf("P2.1: Unhex of the Hex of %d bytes: %v", n, ok)
		}
	}
}

func TestUnhexOfEachPair(t *testing.T) {
	const allowed = "0123456789abcdef"
	for high := range 256 {
		for low := range 256 {
			s := string([]byte{byte(high), byte(low)})
			got, ok := Unhex(s)
			at, then := strings.IndexByte(allowed, s[0]), strings.IndexByte(allowed, s[1])
			if at < 0 || then < 0 {
				if ok || got != nil {
					t.Fatalf("P2.1: Unhex of %q: %v, %v", s, got, ok)
				}
			} else if !ok || len(got) != 1 || int(got[0]) != 16*at+then {
				t.Fatalf("P2.1: Unhex of %q: %v, %v", s, got, ok)
			}
		}
	}
}

func TestUnhexOfWrongTexts(t *testing.T) {
	wrong := []string{
		"0", "000", "00f", "g", "0g", "g0", "0G", "AB", "aB", "Ab", "FF", "0x", "0x00", " 00", "00 ", "0 0", "00\n",
		"-1", "+1", "00,1", "é", "0é0", "٠٠", "００", "\x00\x00", "00\xff\xff", "`a", "ag", "/0", "0:", "@a",
		strings.Repeat("0", 1001), strings.Repeat("0", 1000) + "0g", "g0" + strings.Repeat("0", 1000),
	}
	for _, s := range wrong {
		if b, ok := Unhex(s); ok || b != nil {
			t.Errorf("P2.1: Unhex of %q: %v, %v, want nil, false", s, b, ok)
		}
	}
	if b, ok := Unhex(""); !ok || len(b) != 0 {
		t.Errorf("P2.1: Unhex of nothing: %v, %v", b, ok)
	}
}

func TestUnhexAnswersNewMemory(t *testing.T) {
	first, _ := Unhex("00ffab")
	second, _ := Unhex("00ffab")
	clear(first[:cap(first)])
	third, _ := Unhex("00ffab")
	want := []byte{0x00, 0xff, 0xab}
	if !bytes.Equal(second, want) || !bytes.Equal(third, want) {
		t.Errorf("P0.3: an answer that was written to changes another: %x, %x", second, third)
	}
}
