package index_test

import (
	"math"
	"slices"
	"strings"
	"testing"

	"stillroom/api"
	"stillroom/index"
)

func TestNew(t *testing.T) {
	p := newPair()
	if p.x == nil {
		t.Fatal("P11.1: New tells nothing")
	}
	p.tells(t)
	p.clears(t, 1, 0)
	q := newPair()
	p.puts(t, key(1, "a"), entry(5, 10, 1), true)
	q.tells(t)
}

// A key's next Put or Drop against the Seq of the last one: behind a Put and
// behind a Drop, less, the same and greater.
func TestSeqsRise(t *testing.T) {
	k := key(1, "a")
	for _, dropped := range []bool{false, true} {
		for _, last := range []uint64{0, 1, 5, 1 << 40, 1 << 63, math.MaxUint64} {
			for _, next := range []uint64{0, 1, last - 1, last, last + 1, 1 << 40, 1<<63 - 1, 1 << 63, math.MaxUint64} {
				for _, drop := range []bool{false, true} {
					p := newPair()
					p.puts(t, key(1, "b"), entry(3, 7, 1, 2), true)
					p.puts(t, key(2, "a"), entry(4, 8, 1, 2), true)
					if dropped {
						p.drops(t, k, last, true)
					} else {
						p.puts(t, k, entry(last, 10, 1, 1, 2), true)
					}
					if drop {
						p.drops(t, k, next, next > last)
					} else {
						p.puts(t, k, entry(next, 100, 2, 3), next > last)
					}
					// What was refused is not remembered, what took is.
					p.drops(t, k, max(last, next), false)
					p.puts(t, k, entry(max(last, next), 1, 1), false)
				}
			}
		}
	}
}

// A key that never had anything takes any Seq, 0 too.
func TestTheFirstSeq(t *testing.T) {
	for _, seq := range []uint64{0, 1, 7, math.MaxUint64} {
		p := newPair()
		p.puts(t, key(1, "a"), entry(seq, 10, 1), true)
		p.puts(t, key(1, "a"), entry(seq, 20, 2), false)
		p.drops(t, key(1, "b"), seq, true)
		p.drops(t, key(1, "b"), seq, false)
		p.puts(t, key(1, "b"), entry(seq, 20, 2), false)
	}
}

// A Drop reaches further than to the entries that there were: a Put of less
// comes too late.
func TestDropAheadOfItsPut(t *testing.T) {
	p := newPair()
	k := key(1, "a")
	p.puts(t, k, entry(3, 10, 1, 1), true)
	p.drops(t, k, 9, true)
	p.puts(t, k, entry(4, 20, 2), false)
	p.drops(t, k, 8, false)
	p.puts(t, k, entry(9, 20, 2), false)
	p.drops(t, k, 12, true)
	p.puts(t, k, entry(12, 20, 2), false)
	p.puts(t, k, entry(13, 20, 2), true)
	p.puts(t, k, entry(14, 30, 3, 3, 3), true)
	p.drops(t, k, 14, false)
	p.drops(t, k, 15, true)
}

// Keys are apart by tenant and by each byte of their texts.
func TestKeysAreApart(t *testing.T) {
	p := newPair()
	long := strings.Repeat("k", 1000)
	texts := []string{"", "a", "A", "a\x00", "\x00", "b", "\xff", "\xff\xfe", "é", "e\u0301", long, long + "k", "1", "1 a"}
	for n, text := range texts {
		for _, tenant := range []uint32{0, 1, 2, 1 << 31, math.MaxUint32} {
			p.puts(t, key(tenant, text), entry(uint64(n)+uint64(tenant), n, int64(n)), true)
		}
	}
	p.drops(t, key(1, "a"), 100, true)
	p.moves(t, key(1, "b"), 6, entry(0, 1, 1), true)
	p.clears(t, 1, len(texts)-1)
}

func TestKeysRise(t *testing.T) {
	p := newPair()
	for n, text := range []string{"b", "ab", "", "B", "aa", "a", "\xff", "é", "z", "10", "9", "\x00"} {
		p.puts(t, key(7, text), entry(uint64(n), 1, 1), true)
		p.puts(t, key(8, text+"?"), entry(uint64(n), 1, 1), true)
		p.drops(t, key(7, text+"!"), 4, true)
	}
	want := []string{"", "\x00", "10", "9", "B", "a", "aa", "ab", "b", "z", "é", "\xff"}
	for range 20 {
		if got := p.x.Keys(7); !slices.Equal(got, want) {
			t.Errorf("P11.1: Keys: %q", got)
		}
	}
	if l := p.x.Keys(9); len(l) != 0 {
		t.Errorf("P11.1: Keys of a tenant without entries: %q", l)
	}
}

func TestMove(t *testing.T) {
	p := newPair()
	k := key(1, "a")
	p.moves(t, k, 0, entry(0, 1, 1), false)
	p.moves(t, k, 5, entry(5, 1, 1), false)
	// A Move that is refused is not remembered.
	p.puts(t, k, entry(5, 10, 1, 1, 2), true)
	p.puts(t, key(2, "a"), entry(5, 10, 1, 1, 2), true)
	for _, seq := range []uint64{0, 4, 6, math.MaxUint64} {
		p.moves(t, k, seq, entry(seq, 99, 3, 3), false)
		p.moves(t, k, seq, entry(5, 99, 3, 3), false)
	}
	p.moves(t, key(1, "b"), 5, entry(5, 99, 3), false)
	// Whatever Seq it comes with, the entry keeps its own.
	for _, seq := range []uint64{5, 0, 4, 6, math.MaxUint64} {
		p.moves(t, k, 5, entry(seq, int(seq%7), int64(seq%3), int64(seq%4), 1), true)
		if e, _ := p.x.Get(k); e.Seq != 5 {
			t.Errorf("P11.1: Move by an entry of Seq %d: it has Seq %d", seq, e.Seq)
		}
	}
	p.moves(t, k, 5, index.Entry{}, true)
	p.puts(t, k, entry(5, 1, 1), false)
	p.puts(t, k, entry(6, 1, 1), true)
	p.moves(t, k, 5, entry(5, 2, 2), false)
	p.moves(t, k, 6, entry(5, 2, 2), true)
	p.drops(t, k, 6, false)
	p.drops(t, k, 7, true)
	for _, seq := range []uint64{0, 5, 6, 7, 8} {
		p.moves(t, k, seq, entry(seq, 3, 3), false)
	}
	p.puts(t, k, entry(0, 1, 1), false)
	p.puts(t, k, entry(8, 1, 1), true)
	p.clears(t, 1, 1)
	p.moves(t, k, 8, entry(8, 1, 1), false)
}

// An entry of Seq 0 is one like any other.
func TestMoveOfSeqZero(t *testing.T) {
	p := newPair()
	k := key(0, "")
	p.drops(t, key(0, "x"), 0, true)
	p.moves(t, key(0, "x"), 0, entry(0, 1, 1), false)
	p.puts(t, k, entry(0, 10, 0), true)
	p.moves(t, k, 1, entry(1, 20, 1), false)
	p.moves(t, k, 0, entry(1, 20, 1, 0), true)
}

func TestClear(t *testing.T) {
	p := newPair()
	for n, text := range []string{"a", "b", "c"} {
		p.puts(t, key(1, text), entry(uint64(n+5), 10, 1, 2), true)
		p.puts(t, key(2, text), entry(uint64(n+5), 10, 1, 2), true)
		p.drops(t, key(3, text), 9, true)
	}
	p.drops(t, key(1, "a"), 20, true)
	p.drops(t, key(1, "d"), 20, true)
	p.clears(t, 4, 0)
	p.clears(t, 1, 2)
	p.clears(t, 1, 0)
	p.clears(t, 3, 0)
	// Of those that are clear nothing is remembered, of another one all is.
	for _, tenant := range []uint32{1, 3} {
		p.puts(t, key(tenant, "a"), entry(0, 10, 1, 2), true)
		p.puts(t, key(tenant, "b"), entry(2, 10, 1, 2), true)
		p.puts(t, key(tenant, "d"), entry(1, 10, 1, 2), true)
		p.drops(t, key(tenant, "c"), 1, true)
	}
	p.puts(t, key(2, "a"), entry(5, 20, 3), false)
	p.drops(t, key(2, "b"), 6, false)
	p.clears(t, 2, 3)
	p.clears(t, 1, 3)
	p.clears(t, 3, 3)
	for tenant := range uint32(5) {
		if n := p.x.Size(tenant) + p.x.Live(tenant, 1) + p.x.Live(tenant, 2) + len(p.x.Keys(tenant)); n != 0 {
			t.Errorf("P11.1: something of tenant %d is left: %d", tenant, n)
		}
	}
}

// Heads and parts count each, in the segment where each of them lies, as often
// as it is told.
func TestLive(t *testing.T) {
	p := newPair()
	live := func(tenant uint32, seg int64, want int) {
		t.Helper()
		if got := p.x.Live(tenant, seg); got != want {
			t.Errorf("P11.1: Live(%d, %d): %d, want %d", tenant, seg, got, want)
		}
	}
	p.puts(t, key(1, "a"), entry(1, 10, 1, 1, 1, 2, 3), true)
	p.puts(t, key(1, "b"), entry(2, 10, 2, 3, 3), true)
	p.puts(t, key(1, "c"), entry(3, 10, 4), true)
	p.puts(t, key(2, "a"), entry(1, 10, 1, 4, 4), true)
	for n, want := range []int{0, 3, 2, 3, 1, 0} {
		live(1, int64(n), want)
	}
	for n, want := range []int{0, 1, 0, 0, 2, 0} {
		live(2, int64(n), want)
	}
	p.puts(t, key(1, "a"), entry(4, 10, 2, 2), true)
	live(1, 1, 0)
	live(1, 2, 3)
	live(1, 3, 2)
	p.moves(t, key(1, "b"), 2, entry(2, 10, 5, 5, 2), true)
	live(1, 2, 3)
	live(1, 3, 0)
	live(1, 5, 2)
	p.drops(t, key(1, "a"), 5, true)
	live(1, 2, 1)
	same := at(6, 0)
	p.puts(t, key(1, "d"), index.Entry{Seq: 1, Head: same, Parts: []api.Loc{same, same}}, true)
	p.puts(t, key(1, "e"), index.Entry{Seq: 1, Head: same}, true)
	live(1, 6, 4)
	p.puts(t, key(1, "f"), entry(1, 10, math.MinInt64, math.MaxInt64, -1, 0, math.MinInt64), true)
	live(1, math.MinInt64, 2)
	live(1, math.MaxInt64, 1)
	live(1, -1, 1)
	live(1, 0, 1)
}

func TestSize(t *testing.T) {
	p := newPair()
	size := func(tenant uint32, want int) {
		t.Helper()
		if got := p.x.Size(tenant); got != want {
			t.Errorf("P11.1: Size(%d): %d, want %d", tenant, got, want)
		}
	}
	p.puts(t, key(1, "a"), entry(1, 10, 1, 1, 1), true)
	size(1, 10)
	p.puts(t, key(1, "b"), entry(1, 200, 1), true)
	p.puts(t, key(2, "b"), entry(1, 7, 1), true)
	size(1, 210)
	p.puts(t, key(1, "a"), entry(2, 3000, 1, 1), true)
	size(1, 3200)
	p.puts(t, key(1, "a"), entry(2, 1, 1), false)
	size(1, 3200)
	p.moves(t, key(1, "b"), 1, entry(9, 40000, 1), true)
	size(1, 43000)
	p.moves(t, key(1, "b"), 9, entry(9, 5, 1), false)
	size(1, 43000)
	p.drops(t, key(1, "a"), 2, false)
	size(1, 43000)
	p.drops(t, key(1, "a"), 3, true)
	size(1, 40000)
	p.puts(t, key(1, "c"), entry(1, -50000, 1), true)
	size(1, -10000)
	p.puts(t, key(1, "d"), entry(1, 0, 1), true)
	p.puts(t, key(1, "e"), entry(1, 10000, 1), true)
	size(1, 0)
	size(2, 7)
	p.clears(t, 1, 4)
	size(1, 0)
	size(2, 7)
	p.puts(t, key(1, "a"), entry(1, 6, 1), true)
	size(1, 6)
}

// A sum beyond int does not wrap, and comes back when Sizes go.
func TestSizeDoesNotWrap(t *testing.T) {
	for _, far := range []int{math.MaxInt, math.MinInt} {
		p := newPair()
		near := far/2 + far/4
		p.puts(t, key(1, "a"), entry(1, near, 1), true)
		p.puts(t, key(1, "b"), entry(1, near, 1), true)
		if got := p.x.Size(1); got != far {
			t.Errorf("P0.6: Size of twice %d: %d", near, got)
		}
		for _, text := range []string{"c", "d", "e", "f"} {
			p.puts(t, key(1, text), entry(1, far, 1), true)
		}
		if got := p.x.Size(1); got != far {
			t.Errorf("P0.6: Size of many of %d: %d", far, got)
		}
		for _, text := range []string{"c", "d", "e", "f"} {
			p.drops(t, key(1, text), 2, true)
		}
		p.drops(t, key(1, "a"), 2, true)
		if got := p.x.Size(1); got != near {
			t.Errorf("P0.6: Size of %d, behind greater sums: %d", near, got)
		}
		p.puts(t, key(1, "c"), entry(3, -near, 1), true)
		p.puts(t, key(1, "d"), entry(3, 1, 1), true)
		if got := p.x.Size(1); got != 1 {
			t.Errorf("P0.6: Size of %d, as much below 0, and 1: %d", near, got)
		}
	}
	p := newPair()
	p.puts(t, key(1, "a"), entry(1, math.MaxInt, 1), true)
	p.puts(t, key(1, "b"), entry(1, math.MinInt, 1), true)
	if got := p.x.Size(1); got != -1 {
		t.Errorf("P0.6: Size of the greatest and the least int: %d", got)
	}
	p.drops(t, key(1, "b"), 2, true)
	p.drops(t, key(1, "a"), 2, true)
}

// An Entry of zeros, and entries with a nil list and an empty one, are entries.
func TestEntriesWithoutParts(t *testing.T) {
	p := newPair()
	p.puts(t, key(0, ""), index.Entry{}, true)
	p.puts(t, key(0, ""), index.Entry{}, false)
	p.puts(t, key(0, "nil"), index.Entry{Seq: 1, Head: at(1, 1), Size: 5}, true)
	p.puts(t, key(0, "empty"), index.Entry{Seq: 1, Head: at(1, 1), Size: 5, Parts: []api.Loc{}}, true)
	a, ok := p.x.Get(key(0, "nil"))
	b, there := p.x.Get(key(0, "empty"))
	if !ok || !there || len(a.Parts)+len(b.Parts) != 0 || !same(a, b) {
		t.Errorf("P0.4: a nil list %v and an empty one %v", a, b)
	}
	if n := p.x.Live(0, 1); n != 2 {
		t.Errorf("P11.1: Live of two heads: %d", n)
	}
	p.moves(t, key(0, "nil"), 1, entry(1, 5, 1, 1, 1), true)
	p.moves(t, key(0, "nil"), 1, index.Entry{Head: at(2, 0)}, true)
	p.clears(t, 0, 3)
}

// Each field comes back, by Put and by Move, whatever it is.
func TestGetTellsAllFields(t *testing.T) {
	far := index.Entry{
		Object: math.MaxUint64,
		Seq:    math.MaxUint64,
		Head:   at(math.MinInt64, math.MaxInt),
		Parts:  []api.Loc{at(math.MaxInt64, math.MinInt), at(-1, -1), at(0, 0), at(-1, -1)},
		Size:   math.MinInt,
	}
	p := newPair()
	p.puts(t, key(math.MaxUint32, "a"), far, true)
	p.puts(t, key(1, "a"), entry(math.MaxUint64, 3, 4, 5), true)
	p.moves(t, key(1, "a"), math.MaxUint64, far, true)
	p.puts(t, key(1, "b"), index.Entry{Object: 1, Seq: 2, Head: at(3, 4), Parts: []api.Loc{at(5, 6), at(7, 8)}, Size: 9}, true)
	many := index.Entry{Seq: 1}
	for n := range 5000 {
		many.Parts = append(many.Parts, at(int64(n%3), n))
	}
	p.puts(t, key(1, "c"), many, true)
}

// scrawl writes into all of a list, its spare room too.
func scrawl(l []api.Loc) {
	l = l[:cap(l)]
	for n := range l {
		l[n] = at(77, -77)
	}
}

// roomy is a list with spare room, which is the test's.
func roomy(l ...api.Loc) []api.Loc {
	return append(make([]api.Loc, 0, len(l)+4), l...)
}

// handedIn hands an entry in with these parts: it is not changed, nor is the
// list's spare room, and who writes into the list then changes nothing.
func handedIn(t *testing.T, p pair, parts []api.Loc, hand func(e index.Entry)) {
	t.Helper()
	e := index.Entry{Object: 3, Seq: 5, Head: at(1, 1), Parts: parts, Size: 20}
	was := slices.Clone(parts[:cap(parts)])
	hand(e)
	if !slices.Equal(parts[:cap(parts)], was) {
		t.Errorf("P0.3: a list that is handed in has changed: %v, it was %v", parts[:cap(parts)], was)
	}
	scrawl(parts)
	p.tells(t)
}

func TestWhatIsHandedIn(t *testing.T) {
	k := key(1, "a")
	for _, parts := range [][]api.Loc{{}, {at(1, 2)}, {at(1, 2), at(2, 3), at(3, 4)}} {
		p := newPair()
		handedIn(t, p, roomy(parts...), func(e index.Entry) { p.puts(t, k, e, true) })
		handedIn(t, p, roomy(parts...), func(e index.Entry) { p.puts(t, k, e, false) })
		handedIn(t, p, roomy(parts...), func(e index.Entry) { p.moves(t, k, 5, e, true) })
		handedIn(t, p, roomy(parts...), func(e index.Entry) { p.moves(t, k, 6, e, false) })
		p.puts(t, k, entry(6, 1, 1), true)
	}
}

// One list that is handed in for several entries is not shared by them.
func TestOneListForSeveral(t *testing.T) {
	p := newPair()
	parts := roomy(at(1, 2), at(2, 3))
	p.puts(t, key(1, "a"), index.Entry{Seq: 6, Parts: parts}, true)
	p.puts(t, key(1, "b"), index.Entry{Seq: 6, Parts: parts}, true)
	p.moves(t, key(1, "a"), 6, index.Entry{Seq: 6, Parts: parts[:1]}, true)
	scrawl(parts)
	p.tells(t)
	p.drops(t, key(1, "b"), 7, true)
}

// Who writes into an answer changes neither the index nor another answer.
func TestAnswersAreNewMemory(t *testing.T) {
	p := newPair()
	p.puts(t, key(1, "a"), entry(1, 10, 1, 1, 2, 3), true)
	p.puts(t, key(1, "b"), entry(1, 10, 1, 1, 2, 3), true)
	p.puts(t, key(1, "c"), entry(1, 10, 1), true)
	for _, text := range []string{"a", "b", "c"} {
		one, _ := p.x.Get(key(1, text))
		other, _ := p.x.Get(key(1, text))
		was := copied(other)
		scrawl(one.Parts)
		if !same(other, was) {
			t.Errorf("P0.3: who writes into an answer of Get changes another one")
		}
		p.tells(t)
		// What an answer has behind its end is no other one's either.
		more := append(one.Parts, at(5, 5))
		again := append(other.Parts, at(6, 6))
		scrawl(more)
		if again[len(again)-1] != at(6, 6) {
			t.Errorf("P0.3: two answers of Get share their spare room")
		}
		p.tells(t)
	}
	one, other := p.x.Keys(1), p.x.Keys(1)
	one = one[:cap(one)]
	for n := range one {
		one[n] = "?"
	}
	if !slices.Equal(other, []string{"a", "b", "c"}) {
		t.Errorf("P0.3: who writes into an answer of Keys changes another one: %q", other)
	}
	p.tells(t)
	// An answer stays as it was when the entry goes on.
	e, _ := p.x.Get(key(1, "a"))
	was := copied(e)
	p.moves(t, key(1, "a"), 1, entry(1, 20, 7, 8, 9), true)
	p.puts(t, key(1, "a"), entry(2, 30, 5, 5, 5, 5), true)
	p.clears(t, 1, 3)
	if !same(e, was) {
		t.Errorf("P0.3: an answer of Get changes by later calls: %v", e)
	}
}

// What Get told may be handed in again.
func TestAnswersHandedInAgain(t *testing.T) {
	p := newPair()
	p.puts(t, key(1, "a"), entry(1, 10, 1, 1, 2), true)
	e, _ := p.x.Get(key(1, "a"))
	p.moves(t, key(1, "a"), 1, e, true)
	p.puts(t, key(1, "b"), e, true)
	e.Seq = 2
	p.puts(t, key(1, "a"), e, true)
	scrawl(e.Parts)
	p.tells(t)
}

func TestNilIndex(t *testing.T) {
	var x *index.Index
	for range 2 {
		for _, seq := range []uint64{0, 1, math.MaxUint64} {
			if x.Put(key(1, "a"), entry(seq, 10, 1, 1)) || x.Drop(key(1, "a"), seq) || x.Move(key(1, "a"), seq, entry(seq, 10, 1, 1)) {
				t.Errorf("P11.1: a call of a nil Index takes, Seq %d", seq)
			}
		}
		if e, ok := x.Get(key(1, "a")); ok || !same(e, index.Entry{}) || len(e.Parts) != 0 {
			t.Errorf("P11.1: Get of a nil Index: %v %t", e, ok)
		}
		if x.Clear(1) != 0 || len(x.Keys(1)) != 0 || x.Live(1, 1) != 0 || x.Size(1) != 0 {
			t.Errorf("P11.1: a nil Index has something")
		}
	}
}

// An Index that New did not make is an empty one, whatever is asked first.
func TestIndexOfZeros(t *testing.T) {
	for _, first := range []func(p pair){
		func(p pair) { p.tells(t) },
		func(p pair) { p.clears(t, 1, 0) },
		func(p pair) { p.moves(t, key(1, "a"), 0, entry(0, 1, 1), false) },
		func(p pair) { p.drops(t, key(1, "b"), 3, true) },
		func(p pair) { p.puts(t, key(1, "b"), entry(3, 1, 1, 1), true) },
	} {
		p := pair{new(index.Index), &list{}}
		first(p)
		p.puts(t, key(1, "a"), entry(1, 10, 1, 2), true)
		p.puts(t, key(1, "b"), entry(3, 10, 1, 2), len(p.l.all) == 1)
		p.moves(t, key(1, "a"), 1, entry(1, 20, 2, 2), true)
		p.drops(t, key(1, "a"), 2, true)
		p.clears(t, 1, len(p.l.keys(1)))
	}
}

// The same calls have the same answers, in whatever order maps are gone through.
func TestSameCallsSameAnswers(t *testing.T) {
	one, other := index.New(), index.New()
	for n := range 300 {
		k := key(uint32(n%3), strings.Repeat("k", n%50))
		e := entry(uint64(n), n, int64(n%7), int64(n%5), int64(n%4))
		one.Put(k, e)
		other.Put(k, e)
		if n%4 == 0 {
			one.Drop(k, uint64(n+1))
			other.Drop(k, uint64(n+1))
		}
	}
	for tenant := range uint32(3) {
		if !slices.Equal(one.Keys(tenant), other.Keys(tenant)) || one.Size(tenant) != other.Size(tenant) {
			t.Errorf("P0.5: tenant %d differs", tenant)
		}
		for seg := range int64(8) {
			if one.Live(tenant, seg) != other.Live(tenant, seg) {
				t.Errorf("P0.5: segment %d of tenant %d differs", seg, tenant)
			}
		}
		if one.Clear(tenant) != other.Clear(tenant) {
			t.Errorf("P0.5: Clear of tenant %d differs", tenant)
		}
	}
}
