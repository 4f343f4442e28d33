package manifest

import (
	"encoding/binary"
	"fmt"
	"hash/crc32"
	"maps"
	"math/rand"
	"slices"
	"strconv"
	"testing"

	"stillroom/api"
	"stillroom/disk"
)

// top is the greatest of the numbers that have no bound of their own.
const top = 1 << 40

// must fails the test if a call that prepares it does not do what it should.
func must(t *testing.T, err api.Errno) {
	t.Helper()
	if err != api.OK {
		t.Fatalf("a call of the test's own: error %d", err)
	}
}

// tenant is one that may be, another one for each Id.
func tenant(id uint32) api.Tenant {
	n := int64(id)
	return api.Tenant{Id: id, Epoch: uint64(n + 1), Quota: 1000 + n%60000, Next: uint64(n + 2), NextSeg: n + 20, Segs: []int64{1, 7, n + 8, n + 19}}
}

// greatest is a tenant that takes as much as one may.
func greatest(id uint32) api.Tenant {
	t := api.Tenant{Id: id, Epoch: top, Quota: 1 << 16, Next: top, NextSeg: top}
	for k := range int64(60) {
		t.Segs = append(t.Segs, top-60+k)
	}
	return t
}

// tenants are those that have these Ids.
func tenants(ids ...uint32) []api.Tenant {
	var l []api.Tenant
	for _, id := range ids {
		l = append(l, tenant(id))
	}
	return l
}

// randomTenant is one that may be.
func randomTenant(random *rand.Rand, id uint32) api.Tenant {
	t := api.Tenant{
		Id:      id,
		Epoch:   uint64(1 + random.Int63n(top)>>random.Intn(41)),
		Quota:   1000 + random.Int63n(1<<16-1000+1),
		Next:    uint64(1 + random.Int63n(top)>>random.Intn(41)),
		NextSeg: 1 + random.Int63n(top)>>random.Intn(41),
	}
	segs := map[int64]int{}
	for range random.Intn(61) {
		if t.NextSeg > 1 {
			segs[1+random.Int63n(t.NextSeg-1)]++
		}
	}
	t.Segs = slices.Sorted(maps.Keys(segs))
	return t
}

// may is May, by another way: each bound as a sentence that is looked at alone.
func may(l []api.Tenant) bool {
	wrong := len(l) > 6
	seen := map[uint32]int{}
	last := int64(-1)
	for _, t := range l {
		seen[t.Id]++
		wrong = wrong || seen[t.Id] > 1 || int64(t.Id) < last
		last = int64(t.Id)
		for _, n := range []uint64{t.Epoch, t.Next} {
			wrong = wrong || n == 0 || n > top
		}
		wrong = wrong || t.Quota < 1000 || t.Quota > 65536
		wrong = wrong || t.NextSeg <= 0 || t.NextSeg > top
		wrong = wrong || len(t.Segs) > 60 || !slices.IsSorted(t.Segs)
		for k, seg := range t.Segs {
			wrong = wrong || seg <= 0 || seg > t.NextSeg-1 || slices.Index(t.Segs, seg) != k
		}
	}
	return !wrong
}

// said is a list of tenants as a text, to hold it against another.
func said(l []api.Tenant) string {
	s := strconv.Itoa(len(l)) + ":"
	for _, t := range l {
		s += fmt.Sprintf(" %+v", t)
	}
	return s
}

// short is the beginning of that.
func short(l []api.Tenant) string {
	s := said(l)
	return s[:min(len(s), 200)]
}

// same says whether two lists have the same tenants.
func same(a, b []api.Tenant) bool {
	return slices.EqualFunc(a, b, func(x, y api.Tenant) bool {
		return x.Id == y.Id && x.Epoch == y.Epoch && x.Quota == y.Quota && x.Next == y.Next && x.NextSeg == y.NextSeg && slices.Equal(x.Segs, y.Segs)
	})
}

// copied is tenants that share no memory with these.
func copied(l []api.Tenant) []api.Tenant {
	l = slices.Clone(l)
	for i := range l {
		l[i].Segs = slices.Clone(l[i].Segs)
	}
	return l
}

// with is the tenants with t among them, by sorting.
func with(l []api.Tenant, t api.Tenant) []api.Tenant {
	byId := map[uint32]api.Tenant{}
	for _, x := range append(slices.Clone(l), t) {
		byId[x.Id] = x
	}
	var all []api.Tenant
	for _, id := range slices.Sorted(maps.Keys(byId)) {
		all = append(all, byId[id])
	}
	return all
}

// created is a manifest that has these tenants, on a disk of its own.
func created(t *testing.T, l ...api.Tenant) (*disk.FS, *Man) {
	t.Helper()
	f := disk.New(api.MaxDisk)
	m, err := Create(f)
	must(t, err)
	for _, x := range l {
		must(t, m.Put(x))
	}
	return f, m
}

// tells looks at all that a manifest tells: All, and Get of all Ids that are
// named in l or beside them.
func tells(t *testing.T, what string, m *Man, l []api.Tenant) {
	t.Helper()
	if m == nil {
		t.Fatalf("P10.2: %s: no manifest", what)
	}
	if got := m.All(); !same(got, l) {
		t.Fatalf("P10.2: %s: All: %s, want %s", what, short(got), short(l))
	}
	ids := []uint32{0, 1, 2, 100, 1<<32 - 1}
	for _, x := range l {
		ids = append(ids, x.Id-1, x.Id, x.Id+1)
	}
	for _, id := range ids {
		k := slices.IndexFunc(l, func(x api.Tenant) bool { return x.Id == id })
		want := api.Tenant{}
		if k >= 0 {
			want = l[k]
		}
		got, ok := m.Get(id)
		if ok != (k >= 0) || !same([]api.Tenant{got}, []api.Tenant{want}) {
			t.Fatalf("P10.2: %s: Get(%d): %v, %v, want %v", what, id, got, ok, want)
		}
	}
}

// opens opens the manifest, which is to tell that, and changes nothing by it.
func opens(t *testing.T, what string, f *disk.FS, l []api.Tenant) *Man {
	t.Helper()
	calls := f.Calls()
	m, err := Open(f)
	if err != api.OK {
		t.Fatalf("P10.2: %s: Open: error %d", what, err)
	}
	if f.Calls() != calls {
		t.Fatalf("P10.2: %s: Open by %d changing calls", what, f.Calls()-calls)
	}
	tells(t, what+", opened", m, l)
	return m
}

// opensNone opens the manifest, which is to be told that error.
func opensNone(t *testing.T, what string, f *disk.FS, want api.Errno) {
	t.Helper()
	if m, err := Open(f); m != nil || err != want {
		t.Fatalf("P10.2: %s: Open: error %d, want %d", what, err, want)
	}
}

// puts puts a tenant to a manifest that has those, and is the tenants that it
// has then: at once, opened again, and behind a crash.
func puts(t *testing.T, what string, f *disk.FS, m *Man, l []api.Tenant, x api.Tenant) []api.Tenant {
	t.Helper()
	if err := m.Put(x); err != api.OK {
		t.Fatalf("P10.2: %s: Put of %d: error %d", what, x.Id, err)
	}
	l = with(l, x)
	tells(t, what+", put", m, l)
	opens(t, what+", put", f, l)
	opens(t, what+", put, behind a crash", f.Crash(0, nil, -1), l)
	return l
}

// refuses puts a tenant, which is to be told that error, and leaves what the
// manifest tells.
func refuses(t *testing.T, what string, m *Man, x api.Tenant, want api.Errno) {
	t.Helper()
	before := copied(m.All())
	if err := m.Put(x); err != want {
		t.Fatalf("P10.2: %s: Put of %d: error %d, want %d", what, x.Id, err, want)
	}
	tells(t, what+", refused", m, before)
}

// fileOf is all bytes of a file.
func fileOf(f *disk.FS, name string) []byte {
	b, _ := f.Read(name, 0, f.Size(name))
	return b
}

// lay makes a file that holds b, and syncs it.
func lay(t *testing.T, f *disk.FS, name string, b []byte) {
	t.Helper()
	must(t, f.Create(name))
	must(t, f.Write(name, 0, b))
	must(t, f.Sync(name))
	must(t, f.SyncDir())
}

// slotsWith is the bytes of a file of slots, the first of which has that text
// and turn.
func slotsWith(turn uint64, text []byte) []byte {
	b := binary.BigEndian.AppendUint64(nil, turn)
	b = binary.BigEndian.AppendUint32(b, uint32(len(text)))
	sum := crc32.Checksum(append(slices.Clone(b), text...), crc32.MakeTable(crc32.Castagnoli))
	b = append(binary.BigEndian.AppendUint32(b, sum), text...)
	return append(b, make([]byte, 8192-len(b))...)
}

// keeps are ways in which n dirty sectors come through a crash: all ways, if
// they are few; else up to each one, from each one on, each one alone, all but
// each one, and some of them.
func keeps(n int) [][]bool {
	var l [][]bool
	if n <= 5 {
		for bits := range 1 << n {
			l = append(l, flags(n, func(i int) bool { return bits>>i&1 == 1 }))
		}
		return l
	}
	random := rand.New(rand.NewSource(int64(n)))
	for k := range n + 1 {
		l = append(l,
			flags(n, func(i int) bool { return i < k }),
			flags(n, func(i int) bool { return i >= k }),
			flags(n, func(i int) bool { return i == k }),
			flags(n, func(i int) bool { return i != k }),
			flags(n, func(i int) bool { return random.Intn(n+1) < k }))
	}
	return l
}

// flags is n bools.
func flags(n int, is func(i int) bool) []bool {
	keep := make([]bool, n)
	for i := range keep {
		keep[i] = is(i)
	}
	return keep
}

// everyCrash calls see with disks that a crash can leave of f, with so many of
// the directory's changes.
func everyCrash(f *disk.FS, changes int, see func(what string, g *disk.FS)) {
	n := f.Dirty()
	for k, keep := range keeps(n) {
		for _, torn := range slices.Compact([]int{-1, 0, min(1, n), n / 2, n - 1}) {
			what := fmt.Sprintf("%d changes, keep %d of %d sectors, torn %d", changes, k, n, torn)
			see(what, f.Crash(changes, keep, torn))
		}
	}
}
