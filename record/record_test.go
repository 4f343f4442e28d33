package record

import (
	"bytes"
	"encoding/hex"
	"math"
	"math/rand"
	"strings"
	"testing"

	"stillroom/api"
)

func TestEncodeOfKnownRecords(t *testing.T) {
	cases := []struct {
		r    api.Record
		want string
	}{
		{
			api.Record{Kind: api.KHead},
			"5352" + "01" + "00000000" + "0000000000000000" + "0000000000000000" + "0000000000000000" + "00000000" + "9b59d870",
		},
		{
			api.Record{Kind: api.KPart, Tenant: 0x01020304, Epoch: 0x05060708, Object: 0x090a0b0c0d, Seq: 0x0e0f1011, Body: "123456789"},
			"5352" + "02" + "01020304" + "0000000005060708" + "000000090a0b0c0d" + "000000000e0f1011" + "00000009" + "5c23b014" + "313233343536373839",
		},
		{
			api.Record{Kind: api.KCommit, Tenant: math.MaxUint32, Epoch: api.MaxNum, Object: api.MaxNum - 1, Seq: 1, Body: "\x00"},
			"5352" + "03" + "ffffffff" + "0000010000000000" + "000000ffffffffff" + "0000000000000001" + "00000001" + "0df39ed4" + "00",
		},
		{
			api.Record{Kind: api.KDelete, Tenant: 1, Body: "\xff\x00\x80é"},
			"5352" + "04" + "00000001" + "0000000000000000" + "0000000000000000" + "0000000000000000" + "00000005" + "ed44dfad" + "ff0080c3a9",
		},
	}
	for _, c := range cases {
		b := Encode(c.r)
		if got := hex.EncodeToString(b); got != c.want {
			t.Errorf("P6.1: Encode(%#v): %s, want %s", c.r, got, c.want)
		}
		written, _ := hex.DecodeString(c.want)
		if r, n, err := Decode(written); r != c.r || n != len(written) || err != api.OK {
			t.Errorf("P6.1: Decode(%s): %#v, %d, %v, want %#v", c.want, r, n, err, c.r)
		}
	}
}

func TestAHeadHasHeadSizeBytes(t *testing.T) {
	for _, size := range sizes {
		r := api.Record{Kind: api.KPart, Body: textOf(1, size)}
		if got := len(Encode(r)); got != api.HeadSize+size {
			t.Errorf("P6.1: a record with a body of %d bytes takes %d", size, got)
		}
	}
}

// agree holds May, Encode and Decode of r against what is wanted: that it may
// be, or not.
func agree(t *testing.T, what string, r api.Record, want bool) {
	t.Helper()
	if got := May(r); got != want {
		t.Errorf("P6.1: May of %s: %v, want %v", what, got, want)
	}
	if !want {
		if b := Encode(r); len(b) != 0 {
			t.Errorf("P6.1: Encode of %s: %x, want none", what, b)
		}
		return
	}
	b := Encode(r)
	if !bytes.Equal(b, written(r)) {
		t.Errorf("P6.1: Encode of %s: %x, want %x", what, b, written(r))
	}
	if x, n, err := Decode(b); x != r || n != len(b) || err != api.OK {
		t.Errorf("P6.1: Decode of %s: %#v, %d, %v", what, x, n, err)
	}
}

func TestKinds(t *testing.T) {
	for kind := -300; kind <= 600; kind++ {
		agree(t, "a kind", api.Record{Kind: kind, Body: "x"}, kind >= 1 && kind <= 4)
	}
	// Cut to a byte or to 32 bits, each of these would be a kind that may be.
	for _, kind := range []int{math.MinInt, math.MinInt + 1, math.MaxInt, 1<<32 + 1, 1<<62 + 4, -1<<32 + 2, -255} {
		agree(t, "a kind far away", api.Record{Kind: kind, Body: "x"}, false)
	}
}

func TestNumbers(t *testing.T) {
	for _, n := range numbers {
		may := n <= api.MaxNum
		agree(t, "an epoch", api.Record{Kind: api.KHead, Epoch: n}, may)
		agree(t, "an object", api.Record{Kind: api.KHead, Object: n}, may)
		agree(t, "a seq", api.Record{Kind: api.KHead, Seq: n}, may)
		agree(t, "three numbers", api.Record{Kind: api.KHead, Epoch: n, Object: n, Seq: n}, may)
	}
	for _, tenant := range []uint32{0, 1, 255, 256, 1<<31 - 1, 1 << 31, math.MaxUint32} {
		agree(t, "a tenant", api.Record{Kind: api.KHead, Tenant: tenant}, true)
	}
}

func TestBodies(t *testing.T) {
	for kind := 1; kind <= 4; kind++ {
		for _, size := range sizes {
			agree(t, "a body", api.Record{Kind: kind, Tenant: 5, Body: textOf(2, size)}, true)
		}
		for _, size := range []int{1001, 1002, 1024, 2000, 65536, 65537, 1 << 20} {
			agree(t, "a long body", api.Record{Kind: kind, Tenant: 5, Body: strings.Repeat("x", size)}, false)
		}
	}
	// The limit is of bytes, not of letters.
	agree(t, "500 letters of 2 bytes", api.Record{Kind: api.KPart, Body: strings.Repeat("é", 500)}, true)
	agree(t, "501 letters of 2 bytes", api.Record{Kind: api.KPart, Body: strings.Repeat("é", 501)}, false)
}

// Each byte may stand in a body, records too.
func TestAnyBytesMayBeABody(t *testing.T) {
	all := make([]byte, 256)
	for i := range all {
		all[i] = byte(i)
	}
	inner := string(written(api.Record{Kind: api.KPart, Body: "inner"}))
	for _, body := range []string{string(all), strings.Repeat("\x00", 1000), strings.Repeat("\xff", 1000), "SR", inner, inner[:20]} {
		agree(t, "a body", api.Record{Kind: api.KPart, Tenant: 7, Epoch: 8, Object: 9, Seq: 10, Body: body}, true)
	}
}

func TestThereAndBackWithBytesBehind(t *testing.T) {
	random := rand.New(rand.NewSource(3))
	another := written(randomRecord(random))
	for range 2000 {
		r := randomRecord(random)
		b := Encode(r)
		if !bytes.Equal(b, written(r)) {
			t.Fatalf("P6.1: Encode(%#v): %x, want %x", r, b, written(r))
		}
		for _, behind := range [][]byte{nil, {0}, {'S'}, another, another[:30], make([]byte, 2000)} {
			long := append(bytes.Clone(b), behind...)
			x, n, err := Decode(long)
			if x != r || n != len(b) || err != api.OK {
				t.Fatalf("P6.1: Decode of %x, %d bytes behind it: %#v, %d, %v", b, len(behind), x, n, err)
			}
		}
	}
}

// Nothing but what stands at the beginning counts.
func TestDecodeLooksAtTheBeginningAlone(t *testing.T) {
	b := written(api.Record{Kind: api.KCommit, Tenant: 1, Body: "body"})
	for _, ahead := range []string{"\x00", "R", "x", "SSR", "RS", "\x01\x02\x03"} {
		if x, n, err := Decode(append([]byte(ahead), b...)); x != (api.Record{}) || n != 0 || err != api.ErrCorrupt {
			t.Errorf("P6.1: Decode with %q ahead of a record: %#v, %d, %v", ahead, x, n, err)
		}
	}
}

// wants holds Decode of b against an error that is wanted, with nothing beside
// it.
func wants(t *testing.T, what string, b []byte, want api.Errno) {
	t.Helper()
	if x, n, err := Decode(b); x != (api.Record{}) || n != 0 || err != want {
		t.Errorf("P6.1: Decode of %s (%d bytes): %#v, %d, %v, want %v", what, len(b), x, n, err, want)
	}
}

func TestEachFrontWantsMore(t *testing.T) {
	for _, size := range sizes {
		for kind := 1; kind <= 4; kind++ {
			r := api.Record{Kind: kind, Tenant: math.MaxUint32, Epoch: api.MaxNum, Object: 1, Seq: api.MaxNum, Body: textOf(4, size)}
			b := written(r)
			for n := range b {
				wants(t, "a front", b[:n:n], api.ErrMore)
			}
		}
	}
}

// What lies in the memory behind a front is not looked at.
func TestAFrontOfALongerList(t *testing.T) {
	b := written(api.Record{Kind: api.KPart, Tenant: 3, Body: "123"})
	for n := range b {
		wants(t, "a front of a longer list", b[:n], api.ErrMore)
	}
}

func TestAnEmptyTextWantsMore(t *testing.T) {
	wants(t, "nil", nil, api.ErrMore)
	wants(t, "an empty list", []byte{}, api.ErrMore)
	wants(t, "an empty list with room", make([]byte, 0, 100), api.ErrMore)
}

func TestAMarkAndAKindThatAreNone(t *testing.T) {
	for first := range 256 {
		want := api.ErrCorrupt
		if first == 'S' {
			want = api.ErrMore
		}
		wants(t, "one byte", []byte{byte(first)}, want)
		for second := range 256 {
			want := api.ErrCorrupt
			if first == 'S' && second == 'R' {
				want = api.ErrMore
			}
			wants(t, "two bytes", []byte{byte(first), byte(second)}, want)
		}
	}
	for kind := range 256 {
		want := api.ErrCorrupt
		if kind >= 1 && kind <= 4 {
			want = api.ErrMore
		}
		for rest := range api.HeadSize - 3 {
			b := append([]byte{'S', 'R', byte(kind)}, bytes.Repeat([]byte{255}, rest)...)
			wants(t, "a mark, a kind and more", b, want)
			b[0] = 's'
			wants(t, "a wrong mark", b, api.ErrCorrupt)
			b[0], b[1] = 'S', 'S'
			wants(t, "a wrong mark", b, api.ErrCorrupt)
		}
	}
}

// Fewer bytes than a head are held against the mark and the kind alone; with
// the last byte of a head the numbers count.
func TestNumbersOfAHeadThatIsNotWhole(t *testing.T) {
	wrong := head('S', 'R', 2, math.MaxUint32, math.MaxUint64, math.MaxUint64, math.MaxUint64, math.MaxUint32)
	for n := range api.HeadSize {
		wants(t, "a head that is not whole", wrong[:n:n], api.ErrMore)
	}
	wants(t, "a whole head", wrong, api.ErrCorrupt)
}

// The sum of each of these is right.
func TestHeadsWhoseNumbersMayNotBe(t *testing.T) {
	for _, size := range []int{0, 1, 1000} {
		for _, n := range numbers {
			if n <= api.MaxNum {
				continue
			}
			body := textOf(5, size)
			for _, r := range []api.Record{{Epoch: n}, {Object: n}, {Seq: n}, {Epoch: n, Object: n, Seq: n}} {
				r.Kind, r.Body = api.KPart, body
				b := written(r)
				wants(t, "a number above the limit", b, api.ErrCorrupt)
				wants(t, "a number above the limit, bytes behind", append(bytes.Clone(b), 1, 2, 3), api.ErrCorrupt)
				wants(t, "a head with a number above the limit", b[:api.HeadSize:api.HeadSize], api.ErrCorrupt)
			}
		}
		for _, kind := range []int{0, 5, 6, 127, 128, 255} {
			b := written(api.Record{Kind: kind, Body: textOf(5, size)})
			wants(t, "a kind that is none", b, api.ErrCorrupt)
			wants(t, "a head of a kind that is none", b[:api.HeadSize], api.ErrCorrupt)
		}
	}
}

func TestLengths(t *testing.T) {
	for _, length := range []uint32{1, 2, 255, 256, 999, 1000} {
		b := head('S', 'R', 1, 0, 0, 0, 0, length)
		wants(t, "a head with a body to come", b, api.ErrMore)
		wants(t, "all but a byte", append(b, make([]byte, length-1)...), api.ErrMore)
		wants(t, "a body with a wrong sum", append(b, make([]byte, length)...), api.ErrCorrupt)
	}
	for _, length := range []uint32{1001, 1002, 1 << 10, 1 << 16, 1<<16 + 1, 1 << 24, 1<<31 - 1, 1 << 31, 1<<31 + 1, math.MaxUint32 - 38, math.MaxUint32} {
		b := head('S', 'R', 1, 0, 0, 0, 0, length)
		wants(t, "a length above the limit", b, api.ErrCorrupt)
		wants(t, "a length above the limit, bytes behind", append(b, make([]byte, 2000)...), api.ErrCorrupt)
	}
	// The sum of these is right, and all of the body has come.
	for _, length := range []int{1001, 1002, 5000} {
		wants(t, "a long body", written(api.Record{Kind: 1, Body: textOf(6, length)}), api.ErrCorrupt)
	}
}

// Without a body nothing is to come: the sum tells.
func TestAHeadWithoutABody(t *testing.T) {
	right := written(api.Record{Kind: api.KDelete, Tenant: 9, Seq: 3})
	if x, n, err := Decode(right); x != (api.Record{Kind: api.KDelete, Tenant: 9, Seq: 3}) || n != api.HeadSize || err != api.OK {
		t.Errorf("P6.1: Decode of a head without a body: %#v, %d, %v", x, n, err)
	}
	wants(t, "a wrong sum", head('S', 'R', 1, 0, 0, 0, 0, 0), api.ErrCorrupt)
}

// A number that may not be is told ahead of bytes that are not there.
func TestCorruptAheadOfMore(t *testing.T) {
	for _, b := range [][]byte{
		head('S', 'R', 0, 0, 0, 0, 0, 10),
		head('S', 'R', 5, 0, 0, 0, 0, 10),
		head('s', 'R', 1, 0, 0, 0, 0, 10),
		head('S', 'r', 1, 0, 0, 0, 0, 10),
		head('R', 'S', 1, 0, 0, 0, 0, 10),
		head('S', 'R', 1, 0, api.MaxNum+1, 0, 0, 10),
		head('S', 'R', 1, 0, 0, api.MaxNum+1, 0, 10),
		head('S', 'R', 1, 0, 0, 0, api.MaxNum+1, 10),
	} {
		wants(t, "a head that may not be", b, api.ErrCorrupt)
	}
}

func TestOneByteChanged(t *testing.T) {
	for _, r := range []api.Record{
		{Kind: api.KHead},
		{Kind: api.KPart, Tenant: 0xfffffffe, Epoch: api.MaxNum, Object: 7, Seq: 8, Body: "body"},
		{Kind: api.KDelete, Tenant: 1, Object: api.MaxNum, Seq: api.MaxNum, Body: textOf(7, 300)},
	} {
		b := written(r)
		for at := range b {
			for change := 1; change < 256; change++ {
				b[at] ^= byte(change)
				x, n, err := Decode(b)
				wantX, wantN, want := reckoned(b)
				if x != wantX || n != wantN || err != want || err == api.OK {
					t.Errorf("P6.1: byte %d changed by %02x: %#v, %d, %v, want %v", at, change, x, n, err, want)
				}
				// Only a length that grew can wait for more.
				if inLength := at >= 31 && at < 35; err == api.ErrMore && !inLength {
					t.Errorf("P6.1: byte %d changed by %02x: ErrMore", at, change)
				}
				b[at] ^= byte(change)
			}
		}
	}
}

func TestBytesTakenAwayOrSwapped(t *testing.T) {
	b := written(api.Record{Kind: api.KPart, Tenant: 1, Epoch: 2, Object: 3, Seq: 4, Body: "abcdefgh"})
	for at := range b {
		less := append(bytes.Clone(b[:at]), b[at+1:]...)
		if _, _, err := Decode(append(less, "more behind it"...)); err == api.OK {
			t.Errorf("P6.1: byte %d taken away: OK", at)
		}
		if at > 0 && b[at-1] != b[at] {
			swapped := bytes.Clone(b)
			swapped[at-1], swapped[at] = b[at], b[at-1]
			if _, _, err := Decode(swapped); err == api.OK {
				t.Errorf("P6.1: bytes %d and %d swapped: OK", at-1, at)
			}
		}
	}
}

// Heads of few values, so that each case comes up often, at any length.
func TestDecodeAgainstAnotherReckoning(t *testing.T) {
	random := rand.New(rand.NewSource(8))
	seen := map[api.Errno]int{}
	for range 40000 {
		b := anything(random)
		x, n, err := Decode(b)
		wantX, wantN, want := reckoned(b)
		if x != wantX || n != wantN || err != want {
			t.Fatalf("P6.1: Decode(%x): %#v, %d, %v, want %#v, %d, %v", b, x, n, err, wantX, wantN, want)
		}
		seen[err]++
		if err == api.OK && !bytes.Equal(Encode(x), b[:n]) {
			t.Fatalf("P6.1: Encode of Decode(%x): %x", b, Encode(x))
		}
	}
	for _, err := range []api.Errno{api.OK, api.ErrMore, api.ErrCorrupt} {
		if seen[err] < 1000 {
			t.Errorf("only %d of the texts are %v", seen[err], err)
		}
	}
}

func TestAnswersAreNewMemory(t *testing.T) {
	for _, size := range sizes {
		r := api.Record{Kind: api.KPart, Tenant: 1, Body: textOf(9, size)}
		first, second := Encode(r), Encode(r)
		all := first[:cap(first)]
		for i := range all {
			all[i] = 0xee
		}
		if want := written(r); !bytes.Equal(second, want) || !bytes.Equal(Encode(r), want) || r.Body != textOf(9, size) {
			t.Errorf("P0.3: an answer that was written to changes another, or the record (%d bytes)", size)
		}
	}
}

// The record lies within a longer list, so that writing into its spare room
// would be seen.
func TestWhatIsHandedInStays(t *testing.T) {
	for _, size := range sizes {
		r := api.Record{Kind: api.KPart, Tenant: 1, Seq: 5, Body: textOf(10, size)}
		room := append(written(r), textOf(11, 100)...)
		before := bytes.Clone(room)
		for _, n := range []int{0, 2, 38, 39, api.HeadSize + size, len(room)} {
			Decode(room[:n])
			if !bytes.Equal(room, before) {
				t.Errorf("P0.3: Decode of %d bytes changes what was handed in", n)
			}
		}
		x, _, _ := Decode(room[:api.HeadSize+size])
		clear(room)
		if x != r {
			t.Errorf("P0.3: a list that was handed in is kept (a body of %d bytes)", size)
		}
	}
}

func TestCallsHangOnNothingElse(t *testing.T) {
	random := rand.New(rand.NewSource(12))
	r := randomRecord(random)
	b := Encode(r)
	for range 50 {
		Encode(randomRecord(random))
		Decode(anything(random))
		if !bytes.Equal(Encode(r), b) || !May(r) {
			t.Fatal("P0.5: the same record has another answer later")
		}
		if x, n, err := Decode(b); x != r || n != len(b) || err != api.OK {
			t.Fatal("P0.5: the same bytes have another answer later")
		}
	}
}
