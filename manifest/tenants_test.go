package manifest

import (
	"bytes"
	"math"
	"math/rand"
	"slices"
	"testing"

	"stillroom/api"
)

// lists are tenants that may be: none, some and six, at all bounds.
func lists() [][]api.Tenant {
	least := api.Tenant{Epoch: 1, Quota: 1000, Next: 1, NextSeg: 1}
	first := api.Tenant{Id: 1<<32 - 1, Epoch: 1, Quota: 1000, Next: 1, NextSeg: 2, Segs: []int64{1}}
	alone := api.Tenant{Id: 3, Epoch: 1, Quota: 1 << 16, Next: 1, NextSeg: top, Segs: []int64{top - 1}}
	ends := api.Tenant{Id: 255, Epoch: 256, Quota: 65535, Next: 1<<32 + 1, NextSeg: 1 << 33, Segs: []int64{1, 255, 256, 65536, 1 << 24, 1<<32 - 1, 1 << 32, 1<<33 - 1}}
	var six []api.Tenant
	for id := range uint32(6) {
		six = append(six, greatest(1<<32-6+id))
	}
	return [][]api.Tenant{
		nil, {}, {least}, {first}, {alone}, {ends}, {greatest(0)}, {greatest(1<<32 - 1)},
		{least, first}, tenants(0, 1), tenants(1, 2, 3), tenants(0, 1<<31-1, 1<<31, 1<<32-1),
		tenants(1, 2, 3, 4, 5), tenants(0, 1, 2, 3, 4, 5), tenants(7, 80, 900, 10000, 1<<30, 1<<32-1),
		{least, alone, ends, greatest(1000), tenant(1001), first}, six,
	}
}

// wrongTenants are such as are beyond one of the bounds.
func wrongTenants(id uint32) []api.Tenant {
	var l []api.Tenant
	add := func(turn func(x *api.Tenant)) {
		x := api.Tenant{Id: id, Epoch: 5, Quota: 5000, Next: 5, NextSeg: 10, Segs: []int64{1, 5, 9}}
		turn(&x)
		l = append(l, x)
	}
	for _, n := range []uint64{0, top + 1, 1 << 41, 1 << 48, 1<<48 + 1, 1 << 63, math.MaxUint64} {
		add(func(x *api.Tenant) { x.Epoch = n })
		add(func(x *api.Tenant) { x.Next = n })
	}
	for _, n := range []int64{-1, 0, 1, 999, 1<<16 + 1, 1<<24 + 5000, 1 << 40, math.MinInt64, math.MaxInt64} {
		add(func(x *api.Tenant) { x.Quota = n })
	}
	for _, n := range []int64{-1, 0, 1, 9, top + 1, 1<<48 + 10, math.MinInt64, math.MaxInt64} {
		add(func(x *api.Tenant) { x.NextSeg = n })
	}
	for _, n := range []int64{-1, 0, math.MinInt64, math.MinInt64 + 1} {
		add(func(x *api.Tenant) { x.NextSeg, x.Segs = n, nil })
		add(func(x *api.Tenant) { x.Segs[0] = n })
	}
	for _, segs := range [][]int64{
		{0}, {-1}, {10}, {11}, {1 << 48}, {1<<48 + 1}, {math.MinInt64}, {math.MaxInt64},
		{1, 1}, {9, 9}, {2, 1}, {1, 3, 2}, {1, 2, 2}, {1, 9, 10}, {1, 5, 4, 9}, {9, 1}, {1, 2, 0}, {0, 1, 2}, {1, 2, -3}, {1, 2, math.MinInt64},
	} {
		add(func(x *api.Tenant) { x.Segs = segs })
	}
	for _, n := range []int64{1, 0, -5} {
		add(func(x *api.Tenant) { x.NextSeg, x.Segs = n, []int64{1} })
	}
	for _, n := range []int{61, 62, 256, 256 + 3, 1000, 1 << 16} {
		add(func(x *api.Tenant) {
			x.NextSeg, x.Segs = top, make([]int64, n)
			for k := range x.Segs {
				x.Segs[k] = int64(k + 1)
			}
		})
		add(func(x *api.Tenant) { x.Segs = make([]int64, n) })
	}
	return l
}

// mayBe looks at tenants that may be: their bytes, and what those are.
func mayBe(t *testing.T, what string, l []api.Tenant) []byte {
	t.Helper()
	before := copied(l)
	if !May(l) {
		t.Fatalf("P10.1: %s: May is false of %s", what, short(l))
	}
	b := Encode(l)
	if b == nil || len(b) > 4080 {
		t.Fatalf("P10.1: %s: Encode: %d bytes of %s", what, len(b), short(l))
	}
	kept := bytes.Clone(b)
	x, ok := Decode(b)
	if !ok || !same(x, before) {
		t.Fatalf("P10.1: %s: Decode: %v, %s, want %s", what, ok, short(x), short(l))
	}
	if !same(l, before) || !bytes.Equal(b, kept) {
		t.Fatalf("P0.3: %s: a list that was handed in has changed", what)
	}
	return b
}

// mayNotBe looks at tenants that may not be.
func mayNotBe(t *testing.T, what string, l []api.Tenant) {
	t.Helper()
	before := copied(l)
	if May(l) {
		t.Fatalf("P10.1: %s: May is true of %s", what, short(l))
	}
	if b := Encode(l); b != nil {
		t.Fatalf("P10.1: %s: Encode: %d bytes of %s", what, len(b), short(l))
	}
	if !same(l, before) {
		t.Fatalf("P0.3: %s: a list that was handed in has changed", what)
	}
}

// isOne looks at what Decode tells of any bytes: they are some tenants', which
// may be and have these bytes, or there is nothing.
func isOne(t *testing.T, what string, b []byte) bool {
	t.Helper()
	before := string(b)
	l, ok := Decode(b)
	if string(b) != before {
		t.Fatalf("P0.3: %s: Decode changes its bytes", what)
	}
	if !ok {
		if len(l) > 0 {
			t.Fatalf("P0.2: %s: Decode tells of %s beside false", what, short(l))
		}
		return false
	}
	if !may(l) || !bytes.Equal(Encode(l), b) {
		t.Fatalf("P10.1: %s: Decode of %d bytes: %s, of which Encode has %d bytes", what, len(b), short(l), len(Encode(l)))
	}
	return true
}

// listsAndBytes are lists, each with its bytes.
func listsAndBytes() map[string][]api.Tenant {
	all := map[string][]api.Tenant{}
	for _, l := range lists() {
		all[string(Encode(l))] = l
	}
	return all
}

func TestTenantsToBytesAndBack(t *testing.T) {
	for _, l := range lists() {
		if !may(l) {
			t.Fatalf("the test's own reckoning: %s", short(l))
		}
		mayBe(t, "tenants", l)
	}
	// All lists but the two of none have bytes of their own.
	if n := len(listsAndBytes()); n != len(lists())-1 {
		t.Errorf("P10.1: %d lists have but %d texts", len(lists()), n)
	}
	if a, b := Encode(nil), Encode([]api.Tenant{}); !bytes.Equal(a, b) || a == nil {
		t.Errorf("P10.1: Encode of none: %x and %x", a, b)
	}
	a, b := tenant(1), tenant(1)
	a.Segs, b.Segs = nil, []int64{}
	if !bytes.Equal(Encode([]api.Tenant{a}), Encode([]api.Tenant{b})) {
		t.Error("P0.4: a tenant whose list of segments is nil has other bytes than one whose list is empty")
	}
}

// Each field is told, whatever the others are.
func TestEachFieldHasItsPlace(t *testing.T) {
	for k := range 41 {
		n := uint64(1) << k
		for _, x := range []api.Tenant{
			{Id: 1, Epoch: n, Quota: 1000, Next: 1, NextSeg: 1},
			{Id: 1, Epoch: 1, Quota: 1000, Next: n, NextSeg: 1},
			{Id: 1, Epoch: 1, Quota: 1000, Next: 1, NextSeg: int64(n)},
			{Id: uint32(n), Epoch: 1, Quota: 1000 + int64(n)%(1<<15), Next: 1, NextSeg: 1},
		} {
			mayBe(t, "a bit of a field", []api.Tenant{x})
			mayBe(t, "a bit of a field", []api.Tenant{{Epoch: top, Quota: 1 << 16, Next: top, NextSeg: top}, {Id: max(1, x.Id), Epoch: x.Epoch, Quota: x.Quota, Next: x.Next, NextSeg: x.NextSeg}})
		}
		if k < 40 {
			mayBe(t, "a bit of a segment", []api.Tenant{{Id: 1, Epoch: 1, Quota: 1000, Next: 1, NextSeg: top, Segs: []int64{int64(n)}}})
		}
	}
	for n := range 61 {
		x := greatest(9)
		x.Segs = x.Segs[:n]
		mayBe(t, "some segments", []api.Tenant{x})
		mayBe(t, "some segments", []api.Tenant{tenant(1), x, tenant(10)})
	}
}

// What may be is never too much for a slot.
func TestTheGreatestHasRoom(t *testing.T) {
	var l []api.Tenant
	for id := range uint32(6) {
		l = append(l, greatest(1<<32-6+id))
		mayBe(t, "the greatest", l)
	}
	for k := range l {
		l[k].Segs = nil
		for n := range int64(60) {
			l[k].Segs = append(l[k].Segs, (n+1)*(1<<34))
		}
	}
	mayBe(t, "the greatest, with segments far apart", l)
}

func TestTenantsThatMayNotBe(t *testing.T) {
	for _, x := range wrongTenants(5) {
		if may([]api.Tenant{x}) {
			t.Fatalf("the test's own reckoning: %+v", x)
		}
		mayNotBe(t, "alone", []api.Tenant{x})
		mayNotBe(t, "ahead of others", []api.Tenant{x, tenant(6), tenant(7)})
		mayNotBe(t, "among others", []api.Tenant{tenant(1), x, tenant(7)})
		mayNotBe(t, "behind others", []api.Tenant{tenant(1), tenant(2), tenant(3), tenant(4), x})
	}
	for _, l := range [][]api.Tenant{
		tenants(1, 1), tenants(0, 0), tenants(2, 1), tenants(1, 0), tenants(1<<32-1, 0), tenants(1<<32-1, 1<<32-1), tenants(1<<31, 1<<31-1),
		tenants(1, 2, 2), tenants(1, 3, 2), tenants(2, 1, 3), tenants(3, 2, 1), tenants(1, 2, 1),
		tenants(1, 2, 3, 4, 5, 5), tenants(0, 1, 2, 3, 4, 5, 6), tenants(1, 2, 3, 4, 5, 6, 6),
		make([]api.Tenant, 6), make([]api.Tenant, 7), make([]api.Tenant, 256), make([]api.Tenant, 1<<16), {{}},
	} {
		mayNotBe(t, "a list", l)
	}
	for _, n := range []uint32{7, 8, 255, 256, 256 + 3, 1000} {
		var l []api.Tenant
		for id := range n {
			l = append(l, tenant(id))
		}
		mayNotBe(t, "too many", l)
	}
}

// Fields at random, at their bounds and beyond: May is what another reckoning
// says.
func TestRandomTenants(t *testing.T) {
	random := rand.New(rand.NewSource(1))
	ends := []int64{-1, 0, 1, 2, 999, 1000, 1001, 1<<16 - 1, 1 << 16, 1<<16 + 1, top - 1, top, top + 1, math.MaxInt64}
	any := func(good int64) int64 {
		if random.Intn(8) > 0 {
			return good
		}
		return ends[random.Intn(len(ends))]
	}
	count := [2]int{}
	for range 20000 {
		var l []api.Tenant
		id := uint32(random.Intn(3))
		for range random.Intn(9) {
			x := randomTenant(random, id)
			id += uint32(any(1 + random.Int63n(1<<30)))
			if random.Intn(6) == 0 {
				x.Epoch, x.Next = uint64(any(int64(x.Epoch))), uint64(any(int64(x.Next)))
				x.Quota, x.NextSeg = any(x.Quota), any(x.NextSeg)
				for k := range x.Segs {
					if random.Intn(30) == 0 {
						x.Segs[k] = any(x.Segs[k] + 1)
					}
				}
			}
			l = append(l, x)
		}
		if may(l) {
			mayBe(t, "random tenants", l)
			count[1]++
		} else {
			mayNotBe(t, "random tenants", l)
			count[0]++
		}
	}
	if min(count[0], count[1]) < 1000 {
		t.Errorf("the test's own tenants: %v", count)
	}
}

func TestBytesThatAreCutOrLonger(t *testing.T) {
	for text, l := range listsAndBytes() {
		b := []byte(text)
		for n := range b {
			if isOne(t, "cut", b[:n]) {
				t.Errorf("P10.1: the first %d of %d bytes of %s are some tenants'", n, len(b), short(l))
			}
			isOne(t, "cut at its front", b[n:])
		}
		for _, more := range [][]byte{{0}, {1}, {255}, b, make([]byte, 6), make([]byte, 4080), make([]byte, 1<<16)} {
			if isOne(t, "longer", slices.Concat(b, more)) {
				t.Errorf("P10.1: with %d bytes more than those of %s they are some tenants'", len(more), short(l))
			}
			isOne(t, "longer at its front", slices.Concat(more, b))
		}
	}
	if isOne(t, "nothing", nil) || isOne(t, "nothing", []byte{}) {
		t.Error("P10.1: no bytes are some tenants'")
	}
}

func TestBytesOfWhichOneIsChanged(t *testing.T) {
	for text, l := range listsAndBytes() {
		b := []byte(text)
		refused := 0
		for at := range b {
			for k := range 255 {
				if len(b) > 500 && k&(k-1) > 0 {
					continue // of long texts each bit alone
				}
				x := bytes.Clone(b)
				x[at] ^= byte(k + 1)
				if !isOne(t, "a changed byte", x) {
					refused++
				} else if y, _ := Decode(x); same(y, l) {
					t.Fatalf("P10.1: byte %d is changed, and they are still those of %s", at, short(l))
				}
			}
		}
		if refused == 0 {
			t.Errorf("P10.1: whatever byte is changed of those of %s, they are some tenants'", short(l))
		}
	}
}

func TestRandomBytes(t *testing.T) {
	random := rand.New(rand.NewSource(2))
	for n := range 3000 {
		b := make([]byte, random.Intn(1+n))
		random.Read(b)
		isOne(t, "random bytes", b)
		if len(b) > 0 {
			b[0] %= 8
			isOne(t, "random bytes", b)
		}
	}
	for _, c := range []byte{0, 1, 6, 7, 255} {
		for _, n := range []int{1, 2, 26, 27, 100, 386, 387, 2317, 4080, 4081, 1 << 20} {
			isOne(t, "the same bytes", bytes.Repeat([]byte{c}, n))
		}
	}
}

// Bytes of lists that may not be, laid as those of others are, are none.
func TestBytesOfTenantsThatMayNotBe(t *testing.T) {
	lay := func(l []api.Tenant) []byte {
		b := []byte{byte(len(l))}
		for _, x := range l {
			b = append(b, encodeTenant(x)...)
		}
		return b
	}
	for _, l := range lists() {
		if !bytes.Equal(lay(l), Encode(l)) {
			t.Fatalf("the test's own bytes are not those of %s", short(l))
		}
	}
	wrong := [][]api.Tenant{
		tenants(1, 1), tenants(2, 1), tenants(1, 2, 2), tenants(0, 1, 2, 3, 4, 5, 6), tenants(1, 2, 3, 4, 5, 6, 6), make([]api.Tenant, 6),
	}
	for _, x := range wrongTenants(5) {
		// Others' fields are cut by writing them; those may be then.
		if x.Quota >= 0 && x.Quota < 1<<24 && x.NextSeg >= 0 && x.NextSeg < 1<<48 && max(x.Epoch, x.Next) < 1<<48 && len(x.Segs) < 256 &&
			slices.IndexFunc(x.Segs, func(n int64) bool { return n < 0 || n >= 1<<48 }) < 0 {
			wrong = append(wrong, []api.Tenant{x}, []api.Tenant{tenant(1), x, tenant(9)})
		}
	}
	if len(wrong) < 50 {
		t.Fatalf("the test's own lists: %d", len(wrong))
	}
	for _, l := range wrong {
		if isOne(t, "tenants that may not be", lay(l)) {
			t.Errorf("P10.1: Decode tells of %s", short(l))
		}
	}
}

// What is answered is new memory: who writes into one answer changes no other
// one, nor within one answer another list.
func TestAnswersShareNothing(t *testing.T) {
	l := tenants(1, 2, 3)
	text := string(Encode(l))
	a, b := Encode(l), Encode(l)
	clear(a[:cap(a)])
	if string(b) != text || string(Encode(l)) != text {
		t.Error("P0.3: who writes into an answer of Encode changes another one")
	}
	x, _ := Decode([]byte(text))
	y, _ := Decode([]byte(text))
	for k := range x {
		segs := x[k].Segs
		segs = segs[:cap(segs)]
		for i := range segs {
			segs[i] = 99
		}
		for i := range x {
			if i != k && i > k && said(x[i:i+1]) != said(l[i:i+1]) {
				t.Errorf("P0.3: who writes into the segments of tenant %d changes those of tenant %d", k, i)
			}
		}
	}
	clear(x[:cap(x)])
	if z, _ := Decode([]byte(text)); said(y) != said(l) || said(z) != said(l) {
		t.Error("P0.3: who writes into an answer of Decode changes another one")
	}
	in := []byte(text)
	z, _ := Decode(in)
	clear(in)
	if said(z) != said(l) {
		t.Error("P0.3: Decode keeps the bytes that it was handed")
	}
	// A list with spare room behind it, of itself and of its segments.
	room := append(make([]api.Tenant, 0, 9), copied(l)...)
	spare := append(make([]int64, 0, 9), 1, 2)
	room[2].NextSeg, room[2].Segs = 10, spare
	May(room)
	Encode(room)
	if said(room[3:9]) != said(make([]api.Tenant, 6)) || slices.Max(spare[2:9]) != 0 {
		t.Error("P0.3: the spare room of a list has changed")
	}
}
