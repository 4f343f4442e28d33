package scan

import (
	"bytes"
	"math"
	"math/rand"
	"slices"
	"strconv"
	"strings"
	"testing"

	"stillroom/api"
	"stillroom/record"
)

// others are bytes that are no record, alone or with one behind them.
var others = []string{
	"", "S", "SS", "R", "SR", "SSR", "SRS", "SRSR", "x", "\x00", "RS", "sr\x01",
	"SR\x00", "SR\x01", "SR\x04", "SR\x05", "SRSR\x02", "some other bytes",
	"SR\x02" + strings.Repeat("\x00", 28), "SR\x02" + strings.Repeat("\x00", 36),
	strings.Repeat("S", 39), strings.Repeat("SR", 50), strings.Repeat("SR\x01", 30),
	strings.Repeat("\x00", 100), strings.Repeat("\xff", 100),
}

// told is the places and numbers of l, of a long one those of its beginning.
func told(l []Found) string {
	s := []string{strconv.Itoa(len(l)) + " found"}
	for _, x := range l[:min(len(l), 20)] {
		s = append(s, strconv.Itoa(x.At)+":"+strconv.FormatUint(x.R.Seq, 10))
	}
	return strings.Join(s, " ")
}

// wants holds All and Front of b, and the other reckoning with them, against
// what is known of b.
func wants(t *testing.T, what string, b []byte, wantAll, wantFront []Found, wantTaken int) {
	t.Helper()
	all, front, taken := scanned(t, what, b)
	if !slices.Equal(all, wantAll) {
		t.Fatalf("P7.1: All of %s: %s, want %s", what, told(all), told(wantAll))
	}
	if !slices.Equal(front, wantFront) || taken != wantTaken {
		t.Fatalf("P7.1: Front of %s: %s, %d, want %s, %d", what, told(front), taken, told(wantFront), wantTaken)
	}
}

func TestEmptyText(t *testing.T) {
	wants(t, "an empty text", nil, nil, nil, 0)
	for _, b := range [][]byte{nil, {}, make([]byte, 0, 100), written(1, "behind")[:0]} {
		front, n := Front(b)
		if all := All(b); len(all) != 0 || len(front) != 0 || n != 0 {
			t.Errorf("P7.1: an empty text: %s; %s, %d", told(all), told(front), n)
		}
	}
}

func TestBytesThatHoldNoRecord(t *testing.T) {
	for _, s := range others {
		wants(t, strconv.Quote(s), []byte(s), nil, nil, 0)
	}
	for n := range 100 {
		wants(t, "random bytes", []byte(textOf(int64(n), 20*n)), nil, nil, 0)
	}
	// A whole head whose numbers may be, but whose sum is another one.
	wrong := written(1, "")
	wrong[38]++
	wants(t, "a wrong sum", wrong, nil, nil, 0)
}

// Each of these has a right sum, but something else is amiss.
func TestRecordsThatMayNotBe(t *testing.T) {
	for _, x := range []struct {
		at   int
		c    byte
		body int
	}{
		{0, 's', 0}, {1, 'r', 10}, {2, 0, 0}, {2, 5, 10}, {2, 255, 1000},
		{7, 1, 0}, {15, 128, 10}, {23, 255, 1000}, {25, 2, 0},
	} {
		b := written(1, textOf(3, x.body))
		b[x.at] = x.c
		sum(b)
		wants(t, "records that may not be", joined(b, b, []byte("SR"), b), nil, nil, 0)
	}
	long := append(written(1, textOf(3, 1000)), 'x')
	long[34]++
	sum(long)
	wants(t, "a record whose body is too long", long, nil, nil, 0)
}

func TestOneRecordOfEachKind(t *testing.T) {
	for _, r := range []api.Record{
		{Kind: api.KHead},
		{Kind: api.KPart, Tenant: math.MaxUint32, Epoch: api.MaxNum, Object: api.MaxNum, Seq: api.MaxNum, Body: "body"},
		{Kind: api.KCommit, Tenant: 1, Epoch: 2, Object: 3, Seq: 4, Body: "SSRSR"},
		{Kind: api.KDelete, Tenant: 0x53520153, Epoch: 0x5352, Object: 0x5352, Seq: 0x5352, Body: textOf(1, 1000)},
	} {
		b := record.Encode(r)
		wants(t, "a record", b, []Found{{0, r}}, []Found{{0, r}}, len(b))
		wants(t, "a record behind a byte", joined([]byte("S"), b), []Found{{1, r}}, nil, 0)
		wants(t, "a record ahead of a byte", joined(b, []byte("S")), []Found{{0, r}}, []Found{{0, r}}, len(b))
	}
}

// Each row of records has all sizes, from none to the longest, at either end.
func TestOneBehindTheOther(t *testing.T) {
	sizes := []int{0, 1, 2, 38, 39, 40, 255, 256, 999, 1000, 0, 0, 1000}
	for first := range sizes {
		var b []byte
		var want []Found
		for k := range sizes {
			r := part(uint64(k), textOf(int64(k), sizes[(first+k)%len(sizes)]))
			want = append(want, Found{len(b), r})
			b = append(b, record.Encode(r)...)
			wants(t, "records one behind the other", b, want, want, len(b))
		}
	}
}

// The same record twice is two.
func TestTheSameRecordAgain(t *testing.T) {
	r := part(1, "again")
	b := record.Encode(r)
	want := []Found{{0, r}, {44, r}, {88, r}}
	wants(t, "a record three times", joined(b, b, b), want, want, 132)
}

func TestOtherBytesAheadBetweenAndBehind(t *testing.T) {
	for k, s := range others {
		for _, size := range []int{0, 9, 1000} {
			other := []byte(s)
			first, second := part(1, textOf(1, size)), part(2, textOf(2, size))
			a, b := record.Encode(first), record.Encode(second)
			n, m := len(a), len(other)
			what := "records among " + strconv.Quote(s)

			both := []Found{{0, first}, {n, second}}
			wants(t, what+", behind", joined(a, b, other), both, both, 2*n)
			if k == 0 {
				continue // without other bytes it is the same again
			}
			wants(t, what+", ahead", joined(other, a, b), []Found{{m, first}, {m + n, second}}, nil, 0)
			wants(t, what+", between", joined(a, other, b), []Found{{0, first}, {n + m, second}}, both[:1], n)
			wants(t, what+", everywhere", joined(other, a, other, b, other), []Found{{m, first}, {2*m + n, second}}, nil, 0)
		}
	}
}

func TestAnyByteBetweenRecords(t *testing.T) {
	first, second := part(1, ""), part(2, "b")
	for c := range 256 {
		b := joined(record.Encode(first), []byte{byte(c)}, record.Encode(second), []byte{byte(c)})
		wants(t, "a byte between", b, []Found{{0, first}, {40, second}}, []Found{{0, first}}, 39)
	}
}

// The outer record begins at 0, what is in its body at 39.
func TestABodyThatHoldsRecords(t *testing.T) {
	inner, next := part(8, "in"), part(9, "")
	body := joined([]byte("S"), record.Encode(inner), record.Encode(next), []byte("SR"))
	outer, last := part(1, string(body)), part(2, "last")
	b := joined(record.Encode(outer), record.Encode(last))
	n := 39 + len(body)
	whole := []Found{{0, outer}, {n, last}}
	wants(t, "a body that holds records", b, whole, whole, len(b))
	for at := range 40 {
		spoilt := bytes.Clone(b)
		spoilt[at] ^= 1
		want := []Found{{40, inner}, {81, next}, {n, last}}
		wants(t, "a spoilt record whose body holds records", spoilt, want, nil, 0)
	}
	for at := 40; at < 81; at++ {
		spoilt := bytes.Clone(b)
		spoilt[at] ^= 1
		wants(t, "a body that holds a spoilt record", spoilt, []Found{{81, next}, {n, last}}, nil, 0)
	}
	// Written with a sum of its own, a body may hold whatever it will.
	spoilt := bytes.Clone(body)
	spoilt[5] ^= 1
	odd := part(1, string(spoilt))
	b = joined(record.Encode(odd), record.Encode(last))
	whole = []Found{{0, odd}, {n, last}}
	wants(t, "a right record whose body holds a spoilt one", b, whole, whole, len(b))
}

// One record in the body of the other, and so on.
func TestRecordsWithinRecords(t *testing.T) {
	var nested []api.Record
	text := "core"
	for seq := range uint64(20) {
		r := part(seq, text)
		nested = append(nested, r)
		text = string(record.Encode(r))
	}
	slices.Reverse(nested) // the outermost first
	b := []byte(text)
	for k, r := range nested {
		front, taken := []Found{{0, r}}, len(b)
		if k > 0 {
			front, taken = nil, 0
		}
		wants(t, "records within records", b, []Found{{39 * k, r}}, front, taken)
		b[39*k] = 's'
	}
	wants(t, "spoilt records within records", b, nil, nil, 0)
}

// A record that begins within one that was found is not found, though all of it
// is there; what lies behind the one that was found is.
func TestRecordsThatOverlap(t *testing.T) {
	core, last := part(3, "core"), part(4, "last")
	body := joined([]byte("xyz"), record.Encode(core))
	second := written(2, string(body))
	for k := 1; k < len(second); k++ {
		first := part(1, "ahead"+string(second[:k]))
		a := record.Encode(first)
		b := joined(a, second[k:], record.Encode(last))
		want := []Found{{0, first}}
		if at := len(a) - k + 39 + 3; k <= 39+3 {
			want = append(want, Found{at, core})
		}
		want = append(want, Found{len(b) - 43, last})
		front, taken := want[:1], len(a)
		if k == 39+3 {
			front, taken = want, len(b) // the core is the next one behind the first
		}
		wants(t, "records that overlap", b, want, front, taken)

		// Without the first one the second counts.
		b[0] = 's'
		want = []Found{{len(a) - k, part(2, string(body))}, {len(b) - 43, last}}
		wants(t, "a spoilt one and one that it overlaps", b, want, nil, 0)
	}
}

func TestOneByteChangedInEachPlace(t *testing.T) {
	for _, body := range []string{"", "S", "a body", textOf(4, 100)} {
		first, second, third := part(1, "first"), part(2, body), part(3, "")
		a := record.Encode(first)
		b := joined(a, record.Encode(second), record.Encode(third))
		behind := Found{len(b) - 39, third}
		for at := len(a); at < behind.At; at++ {
			for _, change := range []byte{1, 2, 3, 4, 8, 16, 32, 64, 128, 255} {
				b[at] ^= change
				what := "byte " + strconv.Itoa(at) + " changed"
				wants(t, what, b, []Found{{0, first}, behind}, []Found{{0, first}}, len(a))
				wants(t, what+" of the first", b[len(a):], []Found{{behind.At - len(a), third}}, nil, 0)
				wants(t, what+" of the last", b[:behind.At], []Found{{0, first}}, []Found{{0, first}}, len(a))
				b[at] ^= change
			}
		}
	}
}

func TestCutOffAtTheEnd(t *testing.T) {
	for _, size := range []int{0, 1, 50, 1000} {
		first, second := part(1, "first"), part(2, textOf(5, size))
		b := joined(record.Encode(first), record.Encode(second))
		for n := range b {
			want := []Found{{0, first}}
			taken := 44
			if n < 44 {
				want, taken = nil, 0
			}
			wants(t, "a text cut off at the end", b[:n:n], want, want, taken)
		}
	}
}

// One that was cut off lies ahead of another, which its length goes into.
func TestCutOffAheadOfAnother(t *testing.T) {
	for _, size := range []int{0, 30, 1000} {
		first, second := part(1, textOf(6, size)), part(2, "second")
		a := record.Encode(first)
		for n := 1; n < len(a); n++ {
			b := joined(a[:n], record.Encode(second))
			wants(t, "one cut off ahead of another", b, []Found{{n, second}}, nil, 0)
			b = joined(a, a[:n], record.Encode(second))
			wants(t, "one cut off between others", b, []Found{{0, first}, {len(a) + n, second}}, []Found{{0, first}}, len(a))
		}
	}
}

// Nothing tells that the rest of the outer one will not come, but what is in
// its body is there.
func TestCutOffWithRecordsInItsBody(t *testing.T) {
	inner, next := part(8, "in"), part(9, "next")
	body := joined(record.Encode(inner), record.Encode(next), []byte("end"))
	b := written(1, string(body))
	for n := range b {
		var want []Found
		if n >= 39+41 {
			want = append(want, Found{39, inner})
		}
		if n >= 39+41+43 {
			want = append(want, Found{39 + 41, next})
		}
		wants(t, "one cut off whose body holds records", b[:n], want, nil, 0)
	}
}

func TestFrontLooksAtTheBeginning(t *testing.T) {
	first, second := part(1, "first"), part(2, "second")
	b := joined(record.Encode(first), record.Encode(second), []byte("rest"))
	both := []Found{{0, first}, {44, second}}
	wants(t, "a text that begins with a record", b, both, both, 89)
	for n := 1; n <= len(b); n++ {
		want := []Found{{44 - n, second}}
		var front []Found
		taken := 0
		switch {
		case n == 44:
			front, taken = want, 45
		case n > 44:
			want = nil
		}
		wants(t, "a text whose first bytes are gone", b[n:], want, front, taken)
	}
}

// Pieces of records and of other bytes, one within the other.
func TestAgainstAnotherReckoning(t *testing.T) {
	random := rand.New(rand.NewSource(7))
	records, fronts, more := 0, 0, 0
	for range 4000 {
		all, front, _ := scanned(t, "a random text", anything(random, 2))
		records += len(all)
		if len(front) > 0 {
			fronts++
		}
		if len(all) > len(front) {
			more++
		}
	}
	if records < 4000 || fronts < 1000 || more < 1000 {
		t.Errorf("the texts have %d records only, %d fronts, %d with records behind", records, fronts, more)
	}
}

// Each place of these looks like the beginning of a record for as long as may
// be, or is one.
func TestLongTexts(t *testing.T) {
	const size = 1 << 20
	cut := written(1, textOf(8, 1000))[:39]
	end := part(7, "end")
	for _, piece := range [][]byte{{0}, []byte("S"), []byte("SR"), []byte("SR\x01"), cut, cut[:38]} {
		long := bytes.Repeat(piece, size/len(piece))
		b := joined(long, record.Encode(end))
		all := All(b)
		if front, n := Front(b); len(all) != 1 || all[0] != (Found{len(long), end}) || len(front) != 0 || n != 0 {
			t.Errorf("P7.1: a record behind %d bytes: %s; %s, %d", len(long), told(all), told(front), n)
		}
	}
	small := part(1, "")
	b := bytes.Repeat(record.Encode(small), size/39)
	all := All(b)
	front, n := Front(b)
	if len(all) != size/39 || !slices.Equal(all, front) || n != len(b) {
		t.Fatalf("P7.1: %d records: All finds %d, Front %d in %d bytes of %d", size/39, len(all), len(front), n, len(b))
	}
	for k, x := range all {
		if x != (Found{39 * k, small}) {
			t.Fatalf("P7.1: record %d of a long text: %q", k, x.R.Body)
		}
	}
}

// spoil writes into all of a list, its spare room too.
func spoil(l []Found) {
	l = l[:cap(l)]
	for k := range l {
		l[k] = Found{-1, api.Record{Kind: -1, Body: "spoilt"}}
	}
}

func TestAnswersAreNewMemory(t *testing.T) {
	for count := range 20 {
		var b []byte
		var want []Found
		for k := range count {
			r := part(uint64(k), textOf(int64(k), 10*k))
			want = append(want, Found{len(b), r})
			b = append(b, record.Encode(r)...)
		}
		all, again := All(b), All(b)
		front, _ := Front(b)
		frontAgain, _ := Front(b)
		spoil(all)
		if !slices.Equal(again, want) || !slices.Equal(front, want) || !slices.Equal(frontAgain, want) {
			t.Errorf("P0.3: %d records: writing into All's answer changes another one", count)
		}
		spoil(front)
		if !slices.Equal(again, want) || !slices.Equal(frontAgain, want) {
			t.Errorf("P0.3: %d records: writing into Front's answer changes another one", count)
		}
		wants(t, "a text whose answers were written into", b, want, want, len(b))
	}
}

// The bodies that were found stay as they were when the bytes change.
func TestWhatIsHandedInIsNotKept(t *testing.T) {
	first, second := part(1, "first"), part(2, textOf(9, 1000))
	b := joined(record.Encode(first), record.Encode(second))
	all := All(b)
	front, _ := Front(b)
	clear(b)
	want := []Found{{0, first}, {44, second}}
	if !slices.Equal(all, want) || !slices.Equal(front, want) {
		t.Errorf("P0.3: bytes that were handed in are kept: %s; %s", told(all), told(front))
	}
}

func TestCallsHangOnNothingElse(t *testing.T) {
	random := rand.New(rand.NewSource(10))
	r := part(1, "first")
	b := joined(record.Encode(r), []byte("S"), record.Encode(r))
	for range 50 {
		scanned(t, "a text between", anything(random, 1))
		wants(t, "the same text later", b, []Found{{0, r}, {45, r}}, []Found{{0, r}}, 44)
	}
}
