package index_test

import (
	"fmt"
	"math"
	"math/big"
	"math/rand"
	"slices"
	"strconv"
	"testing"

	"stillroom/api"
	"stillroom/index"
)

// key is a tenant's key.
func key(tenant uint32, text string) api.Key {
	return api.Key{Tenant: tenant, Text: text}
}

// said is a key as a short text.
func said(k api.Key) string {
	return strconv.Itoa(int(k.Tenant)) + ":" + k.Text[:min(len(k.Text), 20)]
}

// at is a place.
func at(seg int64, at int) api.Loc {
	return api.Loc{Seg: seg, At: at}
}

// entry is one with that Seq and Size, whose head and parts lie in these
// segments.
func entry(seq uint64, size int, head int64, parts ...int64) index.Entry {
	e := index.Entry{Object: seq + 1000, Seq: seq, Head: at(head, 39), Size: size}
	for n, seg := range parts {
		e.Parts = append(e.Parts, at(seg, 100*n+7))
	}
	return e
}

// copied is e with a list of its own, which is full.
func copied(e index.Entry) index.Entry {
	e.Parts = slices.Clip(slices.Clone(e.Parts))
	return e
}

// same says whether these are the same entries; a nil list is an empty one.
func same(a, b index.Entry) bool {
	return a.Object == b.Object && a.Seq == b.Seq && a.Head == b.Head && a.Size == b.Size && slices.Equal(a.Parts, b.Parts)
}

// told is something that was told of a key.
type told struct {
	key  api.Key
	seq  uint64
	drop bool
	e    index.Entry
}

// list is an index in another way: what was told and took, one behind the
// other; each answer is reckoned from all of it.
type list struct {
	all []told
}

// news says whether no Seq of k is as great as seq.
func (l *list) news(k api.Key, seq uint64) bool {
	for _, x := range l.all {
		if x.key == k && x.seq >= seq {
			return false
		}
	}
	return true
}

func (l *list) put(k api.Key, e index.Entry) bool {
	if !l.news(k, e.Seq) {
		return false
	}
	l.all = append(l.all, told{k, e.Seq, false, copied(e)})
	return true
}

func (l *list) drop(k api.Key, seq uint64) bool {
	if !l.news(k, seq) {
		return false
	}
	l.all = append(l.all, told{k, seq, true, index.Entry{}})
	return true
}

// latest is where the last thing stands that was told of k; -1: nothing was.
func (l *list) latest(k api.Key) int {
	for n, x := range slices.Backward(l.all) {
		if x.key == k {
			return n
		}
	}
	return -1
}

func (l *list) get(k api.Key) (index.Entry, bool) {
	n := l.latest(k)
	if n < 0 || l.all[n].drop {
		return index.Entry{}, false
	}
	return l.all[n].e, true
}

func (l *list) move(k api.Key, seq uint64, e index.Entry) bool {
	was, ok := l.get(k)
	if !ok || was.Seq != seq {
		return false
	}
	n := l.latest(k)
	l.all[n].e = copied(e)
	l.all[n].e.Seq = seq
	return true
}

func (l *list) clear(tenant uint32) int {
	n := len(l.entries(tenant))
	l.all = slices.DeleteFunc(l.all, func(x told) bool { return x.key.Tenant == tenant })
	return n
}

// entries are a tenant's, by their keys.
func (l *list) entries(tenant uint32) map[string]index.Entry {
	m := map[string]index.Entry{}
	for _, x := range l.all {
		if e, ok := l.get(x.key); ok && x.key.Tenant == tenant {
			m[x.key.Text] = e
		}
	}
	return m
}

func (l *list) keys(tenant uint32) []string {
	var keys []string
	for text := range l.entries(tenant) {
		keys = append(keys, text)
	}
	slices.Sort(keys)
	return keys
}

func (l *list) live(tenant uint32, seg int64) int {
	n := 0
	for _, e := range l.entries(tenant) {
		for _, p := range append([]api.Loc{e.Head}, e.Parts...) {
			if p.Seg == seg {
				n++
			}
		}
	}
	return n
}

func (l *list) size(tenant uint32) int {
	sum := new(big.Int)
	for _, e := range l.entries(tenant) {
		sum.Add(sum, big.NewInt(int64(e.Size)))
	}
	switch {
	case sum.IsInt64():
		return int(sum.Int64())
	case sum.Sign() < 0:
		return math.MinInt
	default:
		return math.MaxInt
	}
}

// pair is an index, and the list that says what it is to tell.
type pair struct {
	x *index.Index
	l *list
}

func newPair() pair {
	return pair{index.New(), &list{}}
}

// puts is Put to both, which is to tell ok.
func (p pair) puts(t *testing.T, k api.Key, e index.Entry, ok bool) {
	t.Helper()
	if got := p.x.Put(k, e); got != ok {
		t.Errorf("P11.1: Put(%+q, Seq %d): %t", said(k), e.Seq, got)
	}
	if p.l.put(k, e) != ok {
		t.Fatalf("the test's own reckoning: Put(%+q, Seq %d)", said(k), e.Seq)
	}
	p.tells(t)
}

// drops is Drop to both, which is to tell ok.
func (p pair) drops(t *testing.T, k api.Key, seq uint64, ok bool) {
	t.Helper()
	if got := p.x.Drop(k, seq); got != ok {
		t.Errorf("P11.1: Drop(%+q, %d): %t", said(k), seq, got)
	}
	if p.l.drop(k, seq) != ok {
		t.Fatalf("the test's own reckoning: Drop(%+q, %d)", said(k), seq)
	}
	p.tells(t)
}

// moves is Move to both, which is to tell ok.
func (p pair) moves(t *testing.T, k api.Key, seq uint64, e index.Entry, ok bool) {
	t.Helper()
	if got := p.x.Move(k, seq, e); got != ok {
		t.Errorf("P11.1: Move(%+q, %d): %t", said(k), seq, got)
	}
	if p.l.move(k, seq, e) != ok {
		t.Fatalf("the test's own reckoning: Move(%+q, %d)", said(k), seq)
	}
	p.tells(t)
}

// clears is Clear to both, which is to tell n.
func (p pair) clears(t *testing.T, tenant uint32, n int) {
	t.Helper()
	if got := p.x.Clear(tenant); got != n {
		t.Errorf("P11.1: Clear(%d): %d, want %d", tenant, got, n)
	}
	if p.l.clear(tenant) != n {
		t.Fatalf("the test's own reckoning: Clear(%d)", tenant)
	}
	p.tells(t)
}

// tells looks at all that the index tells, of what was told and of what was not.
func (p pair) tells(t *testing.T) {
	t.Helper()
	tenants := map[uint32]int{0: 1, 1: 1, 2: 1, math.MaxUint32: 1}
	segs := map[int64]int{-1: 1, 0: 1, 1: 1, 2: 1, 3: 1, math.MinInt64: 1, math.MaxInt64: 1}
	texts := map[string]int{"": 1, "a": 1, "none": 1}
	for _, x := range p.l.all {
		tenants[x.key.Tenant]++
		texts[x.key.Text]++
		segs[x.e.Head.Seg]++
		for _, l := range x.e.Parts {
			segs[l.Seg]++
		}
	}
	for tenant := range tenants {
		for text := range texts {
			want, there := p.l.get(key(tenant, text))
			if got, ok := p.x.Get(key(tenant, text)); ok != there || !same(got, want) {
				t.Fatalf("P11.1: Get(%+q): %v %t, want %v %t", said(key(tenant, text)), got, ok, want, there)
			}
		}
		for seg := range segs {
			if got, want := p.x.Live(tenant, seg), p.l.live(tenant, seg); got != want {
				t.Fatalf("P11.1: Live(%d, %d): %d, want %d", tenant, seg, got, want)
			}
		}
		if got, want := p.x.Keys(tenant), p.l.keys(tenant); !slices.Equal(got, want) {
			t.Fatalf("P11.1: Keys(%d): %+q, want %+q", tenant, got, want)
		}
		if got, want := p.x.Size(tenant), p.l.size(tenant); got != want {
			t.Fatalf("P11.1: Size(%d): %d, want %d", tenant, got, want)
		}
	}
}

// randomEntry is one with few or no parts, in few segments.
func randomEntry(random *rand.Rand) index.Entry {
	var parts []int64
	for range random.Intn(5) {
		parts = append(parts, int64(random.Intn(5))-1)
	}
	size := random.Intn(1000) - 100
	if random.Intn(10) == 0 {
		size = []int{math.MinInt, math.MaxInt, math.MinInt + 1, math.MaxInt - 1, 0}[random.Intn(5)]
	}
	e := entry(uint64(random.Intn(12)), size, int64(random.Intn(5))-1, parts...)
	if random.Intn(30) == 0 {
		e.Seq = math.MaxUint64 - uint64(random.Intn(3))
	}
	return e
}

// Random calls, of few keys, so that they meet.
func TestRandomCalls(t *testing.T) {
	random := rand.New(rand.NewSource(1))
	count := map[string]int{}
	for range 150 {
		p := newPair()
		for range 80 {
			k := key(uint32(random.Intn(3)), strconv.Itoa(random.Intn(3)))
			e := randomEntry(random)
			switch n := random.Intn(20); {
			case n < 9:
				ok := p.l.news(k, e.Seq)
				p.puts(t, k, e, ok)
				count[fmt.Sprint("put ", ok)]++
			case n < 13:
				ok := p.l.news(k, e.Seq)
				p.drops(t, k, e.Seq, ok)
				count[fmt.Sprint("drop ", ok)]++
			case n < 19:
				was, there := p.l.get(k)
				seq := e.Seq
				if there && random.Intn(2) > 0 {
					seq = was.Seq
				}
				ok := there && was.Seq == seq
				p.moves(t, k, seq, e, ok)
				count[fmt.Sprint("move ", ok)]++
			default:
				n := len(p.l.entries(k.Tenant))
				p.clears(t, k.Tenant, n)
				count[fmt.Sprint("clear ", n > 0)]++
			}
		}
	}
	for _, what := range []string{"put true", "put false", "drop true", "drop false", "move true", "move false", "clear true", "clear false"} {
		if count[what] < 50 {
			t.Errorf("the test's own calls: %s %d times", what, count[what])
		}
	}
}
