package manifest

import (
	"bytes"
	"math/rand"
	"slices"
	"strconv"
	"strings"
	"testing"

	"stillroom/api"
	"stillroom/disk"
	"stillroom/slots"
)

func TestCreate(t *testing.T) {
	f := disk.New(8192)
	m, err := Create(f)
	if err != api.OK {
		t.Fatalf("P10.2: Create: error %d", err)
	}
	tells(t, "a new one", m, nil)
	if !slices.Equal(f.Names(), []string{"MAN"}) || f.Used() != 8192 || f.Dirty() != 0 {
		t.Errorf("P10.2: Create: files %q, %d bytes, %d dirty sectors", f.Names(), f.Used(), f.Dirty())
	}
	opens(t, "a new one", f, nil)
	opens(t, "a new one, behind a crash", f.Crash(0, nil, -1), nil)
	s, err := slots.Open(f, "MAN")
	if err != api.OK || s.Turn() != 1 || !bytes.Equal(s.Text(), Encode(nil)) {
		t.Errorf("P10.2: the file has turn %d, %x: error %d", s.Turn(), s.Text(), err)
	}
	puts(t, "a new one", f, m, nil, tenant(1))
}

func TestCreateWhereOneIs(t *testing.T) {
	for k, b := range [][]byte{nil, []byte("?"), slotsWith(7, Encode(nil)), slotsWith(7, []byte("?")), slotsWith(7, Encode(tenants(1, 2)))} {
		f := disk.New(api.MaxDisk)
		lay(t, f, "MAN", b)
		lay(t, f, "other", []byte("other"))
		calls := f.Calls()
		for _, n := range []int{0, -1} {
			f.Fail(n)
			if m, err := Create(f); m != nil || err != api.ErrExists {
				t.Errorf("P10.2: Create, there is a file, %d: error %d", k, err)
			}
		}
		f.Room(0)
		if m, err := Create(f); m != nil || err != api.ErrExists {
			t.Errorf("P10.2: Create, there is a file and no room, %d: error %d", k, err)
		}
		if f.Calls() != calls || !bytes.Equal(fileOf(f, "MAN"), b) {
			t.Errorf("P10.2: a Create that is refused changes the file, %d", k)
		}
	}
	f, m := created(t, tenants(1, 2)...)
	if x, err := Create(f); x != nil || err != api.ErrExists {
		t.Errorf("P10.2: Create again: error %d", err)
	}
	tells(t, "one that was created again", m, tenants(1, 2))
	opens(t, "one that was created again", f, tenants(1, 2))
}

func TestCreateWithoutRoom(t *testing.T) {
	for _, room := range []int{-1, 0, 4096, 8191} {
		f := disk.New(room)
		if m, err := Create(f); m != nil || err != api.ErrFull {
			t.Errorf("P10.2: Create with room for %d bytes: error %d", room, err)
		}
		opensNone(t, "no room", f, api.ErrNotFound)
		f.Room(8192)
		m, err := Create(f)
		if err != api.OK {
			t.Fatalf("P10.2: Create, now with room: error %d", err)
		}
		// A Put needs none.
		f.Room(0)
		var l []api.Tenant
		for id := range uint32(6) {
			l = puts(t, "no room any more", f, m, l, greatest(id))
		}
	}
	f := disk.New(api.MaxDisk)
	for k := range api.MaxFiles {
		must(t, f.Create("x"+strconv.Itoa(k)))
	}
	if m, err := Create(f); m != nil || err != api.ErrFull || len(f.Names()) != api.MaxFiles {
		t.Errorf("P10.2: Create beside %d files: error %d", api.MaxFiles, err)
	}
	if m, err := Create(nil); m != nil || err == api.OK {
		t.Errorf("P10.2: Create on no disk: error %d", err)
	}
}

func TestOpenNone(t *testing.T) {
	f := disk.New(api.MaxDisk)
	opensNone(t, "a disk without files", f, api.ErrNotFound)
	opensNone(t, "no disk", nil, api.ErrNotFound)
	for _, name := range []string{"man", "MAN.", "MA", "NEW", "MAN2", "t1.1"} {
		lay(t, f, name, slotsWith(1, Encode(nil)))
		opensNone(t, "other files", f, api.ErrNotFound)
	}
	m, err := Create(f)
	must(t, err)
	puts(t, "beside other files", f, m, nil, tenant(1))
	must(t, f.Remove("MAN"))
	opensNone(t, "one that is gone", f, api.ErrNotFound)
}

// Files that are no slots, or whose text is no tenants'.
func TestOpenCorrupt(t *testing.T) {
	opening := func(what string, b []byte) {
		t.Helper()
		f := disk.New(api.MaxDisk)
		lay(t, f, "MAN", b)
		calls := f.Calls()
		opensNone(t, what, f, api.ErrCorrupt)
		if f.Calls() != calls || !bytes.Equal(fileOf(f, "MAN"), b) {
			t.Errorf("P10.2: %s: Open changes the file", what)
		}
	}
	good := Encode(tenants(1, 20, 300))
	for k, b := range [][]byte{nil, {0}, good, make([]byte, 8191), make([]byte, 8192), bytes.Repeat([]byte{255}, 8192), slotsWith(1, good)[1:], append([]byte{0}, slotsWith(1, good)...)} {
		opening("no slots, "+strconv.Itoa(k), b)
	}
	for k, text := range []string{"", "?", "\xff", strings.Repeat("\x00", 4080), strings.Repeat("?", 4080), string(good) + "\x00", string(good[:len(good)-1]), string(good[1:]), string(good) + string(good)} {
		opening("a text that is none, "+strconv.Itoa(k), slotsWith(1, []byte(text)))
	}
	refused := 0
	for at := range good {
		for bit := range 8 {
			text := bytes.Clone(good)
			text[at] ^= 1 << bit
			l, ok := Decode(text)
			if !ok {
				refused++
				opening("one byte of the text is changed", slotsWith(1, text))
				continue
			}
			f := disk.New(api.MaxDisk)
			lay(t, f, "MAN", slotsWith(1, text))
			opens(t, "one byte of the text is changed", f, l)
		}
	}
	if refused == 0 {
		t.Error("P10.1: whatever bit is changed, they are some tenants'")
	}
	for at := range 16 + len(good) {
		b := slotsWith(1, good)
		b[at] ^= 0x20
		opening("one byte of the slot is changed", b)
	}
}

// The slot of the greater turn counts, and none that is not whole.
func TestOpenOfTwoSlots(t *testing.T) {
	f, m := created(t)
	var l []api.Tenant
	for k, id := range []uint32{4, 1, 9, 3} {
		former := l
		l = puts(t, "a file", f, m, l, tenant(id))
		b := fileOf(f, "MAN")
		slot := (k + 1) % 2 * 4096
		for at := slot; at < slot+16+len(Encode(l)); at += 1 + at%13 {
			spoilt := bytes.Clone(b)
			spoilt[at] ^= 4
			g := disk.New(api.MaxDisk)
			lay(t, g, "MAN", spoilt)
			x := opens(t, "the latest slot is spoilt", g, former)
			puts(t, "the latest slot was spoilt", g, x, former, tenant(77))
		}
	}
	// The text of the greater turn is none, though the other slot has one.
	for _, turn := range []uint64{2, top} {
		b := slotsWith(1, Encode(tenants(1)))
		copy(b[4096:], slotsWith(turn, []byte("?"))[:4096])
		g := disk.New(api.MaxDisk)
		lay(t, g, "MAN", b)
		opensNone(t, "the latest text is none", g, api.ErrCorrupt)
	}
}

func TestPut(t *testing.T) {
	for k, ids := range [][]uint32{
		{1}, {1, 2, 3, 4, 5, 6}, {6, 5, 4, 3, 2, 1}, {5, 1, 9, 7, 3, 8}, {0, 1<<32 - 1, 1 << 31, 1<<31 - 1, 1, 2},
		{10, 20, 15, 12, 11, 13}, {1<<32 - 1, 0}, {1, 1, 1}, {3, 1, 3, 2, 3, 1, 2, 5, 4, 6, 1, 6, 3},
	} {
		f, m := created(t)
		x := opens(t, "a new one", f, nil)
		var l []api.Tenant
		for n, id := range ids {
			what := "ids " + strconv.Itoa(k) + ", " + strconv.Itoa(n)
			l = puts(t, what, f, m, l, tenant(id))
			g := f.Crash(0, nil, -1)
			puts(t, what+", opened", g, opens(t, what, g, l), l, tenant(ids[0]))
		}
		tells(t, "one that was opened ahead of that", x, nil)
	}
}

// Another tenant in the place of one: no field of the former one stays.
func TestPutInAnothersPlace(t *testing.T) {
	f, m := created(t, tenants(1, 5, 9)...)
	l := tenants(1, 5, 9)
	for n, id := range []uint32{5, 1, 9, 5, 5, 1} {
		for k, x := range []api.Tenant{
			{Id: id, Epoch: 2, Quota: 2000, Next: 3, NextSeg: 4},
			{Id: id, Epoch: 2, Quota: 2000, Next: 3, NextSeg: 4, Segs: []int64{1, 2, 3}},
			greatest(id), tenant(id),
			{Id: id, Epoch: 1, Quota: 1000, Next: 1, NextSeg: 1},
			{Id: id, Epoch: 1, Quota: 1000, Next: 1, NextSeg: 3, Segs: []int64{2}},
			{Id: id, Epoch: 1, Quota: 1000, Next: 1, NextSeg: 3, Segs: []int64{2}},
		} {
			l = puts(t, "in place, "+strconv.Itoa(n)+", "+strconv.Itoa(k), f, m, l, x)
			if len(l) != 3 {
				t.Fatalf("the test's own list: %s", short(l))
			}
		}
	}
	// That is so with six too.
	f, m = created(t, tenants(1, 2, 3, 4, 5, 6)...)
	l = tenants(1, 2, 3, 4, 5, 6)
	for id := range uint32(6) {
		l = puts(t, "in place, of six", f, m, l, greatest(id+1))
	}
}

// Each Put saves, also that of a tenant that was so already.
func TestEachPutSaves(t *testing.T) {
	f, m := created(t)
	for k := range uint64(5) {
		must(t, m.Put(tenant(3)))
		s, err := slots.Open(f, "MAN")
		if err != api.OK || s.Turn() != 2+k || f.Dirty() != 0 {
			t.Errorf("P10.2: behind %d Puts the turn is %d", k+1, s.Turn())
		}
	}
}

func TestPutRefused(t *testing.T) {
	for _, ids := range [][]uint32{nil, {1}, {1, 5}, {1, 2, 3, 4, 5}, {1, 2, 3, 4, 5, 9}} {
		l := tenants(ids...)
		f, m := created(t, l...)
		calls, b := f.Calls(), fileOf(f, "MAN")
		for _, fail := range []int{-1, 0} {
			f.Fail(fail)
			for _, id := range []uint32{0, 1, 5, 6, 1<<32 - 1} {
				want := api.ErrForm
				if len(l) == 6 && !slices.Contains(ids, id) {
					want = api.ErrFull
					refuses(t, "six are there", m, tenant(id), want)
					refuses(t, "six are there", m, greatest(id), want)
				}
				for _, x := range wrongTenants(id) {
					if err := m.Put(x); err != want {
						t.Fatalf("P10.2: Put to %d tenants of one that may not be: error %d, want %d", len(l), err, want)
					}
				}
				refuses(t, "one that may not be", m, api.Tenant{Id: id}, want)
			}
		}
		f.Fail(-1)
		if f.Calls() != calls || !bytes.Equal(fileOf(f, "MAN"), b) {
			t.Errorf("P10.2: a Put that is refused changes the file: %d calls", f.Calls()-calls)
		}
		opens(t, "behind Puts that were refused", f, l)
		puts(t, "behind Puts that were refused", f, m, l, greatest(5))
	}
}

// A list that may be is never too long for the file.
func TestPutOfTheGreatest(t *testing.T) {
	f, m := created(t)
	var l []api.Tenant
	for id := uint32(1<<32 - 1); id >= 1<<32-6; id-- {
		l = puts(t, "the greatest", f, m, l, greatest(id))
	}
	refuses(t, "six of the greatest", m, greatest(1), api.ErrFull)
	refuses(t, "six of the greatest", m, wrongTenants(1)[0], api.ErrFull)
	refuses(t, "six of the greatest", m, wrongTenants(1<<32 - 1)[0], api.ErrForm)
}

// The slots' ErrRange: the last turn is 2^40. It comes behind Put's own errors.
func TestPutBehindTheLastTurn(t *testing.T) {
	f := disk.New(api.MaxDisk)
	l := tenants(1, 2, 3, 4, 5)
	lay(t, f, "MAN", slotsWith(top-1, Encode(l)))
	m := opens(t, "the last turn but one", f, l)
	l = puts(t, "the last turn", f, m, l, tenant(6))
	for _, x := range []*Man{m, opens(t, "the last turn", f, l)} {
		calls, b := f.Calls(), fileOf(f, "MAN")
		refuses(t, "behind the last turn", x, greatest(3), api.ErrRange)
		refuses(t, "behind the last turn", x, tenant(7), api.ErrFull)
		refuses(t, "behind the last turn", x, wrongTenants(7)[0], api.ErrFull)
		refuses(t, "behind the last turn", x, wrongTenants(3)[0], api.ErrForm)
		if f.Calls() != calls || !bytes.Equal(fileOf(f, "MAN"), b) {
			t.Errorf("P10.2: a Put behind the last turn changes the file")
		}
	}
	opens(t, "behind the last turn", f, l)
}

// The slots' errors where the file is gone.
func TestPutToAFileThatIsGone(t *testing.T) {
	f, m := created(t, tenants(1, 2)...)
	must(t, f.Remove("MAN"))
	refuses(t, "the file is gone", m, tenant(3), api.ErrNotFound)
	refuses(t, "the file is gone", m, api.Tenant{Id: 3}, api.ErrForm)
}

func TestNil(t *testing.T) {
	var none *Man
	for range 2 {
		if l := none.All(); len(l) > 0 {
			t.Errorf("P10.2: All of a nil *Man: %s", short(l))
		}
		for _, id := range []uint32{0, 1, 1<<32 - 1} {
			if x, ok := none.Get(id); ok || said([]api.Tenant{x}) != said([]api.Tenant{{}}) {
				t.Errorf("P10.2: Get of a nil *Man: %v, %v", x, ok)
			}
		}
		for _, x := range append(wrongTenants(1), api.Tenant{}, tenant(1), greatest(2)) {
			if err := none.Put(x); err != api.ErrClosed {
				t.Errorf("P10.2: Put to a nil *Man: error %d", err)
			}
		}
	}
	// One that neither Create nor Open made has no promise but that nothing
	// panics.
	var zero Man
	zero.All()
	zero.Get(1)
	if err := zero.Put(tenant(1)); err == api.OK {
		t.Error("P10.2: Put to a manifest without a file is told OK")
	}
	zero.Put(api.Tenant{})
}

// What All and Get answer, and what Put is handed, is not the manifest's own.
func TestListsOfItsOwn(t *testing.T) {
	f, m := created(t)
	var l []api.Tenant
	for _, id := range []uint32{5, 1, 9} {
		x := tenant(id)
		x.Segs = append(make([]int64, 0, 100), x.Segs...)
		before := slices.Clone(x.Segs[:100])
		must(t, m.Put(x))
		if !slices.Equal(x.Segs[:100], before) {
			t.Fatal("P0.3: Put changes the segments that it was handed")
		}
		l = with(l, tenant(id))
		for k := range 100 {
			x.Segs[:100][k] = 77
		}
		tells(t, "segments that were handed in are written into", m, l)
		must(t, m.Put(l[0])) // what it was handed formerly is not saved either
		opens(t, "segments that were handed in are written into", f, l)
	}
	for range 2 {
		other := m.All()
		all := m.All()
		for k := range all {
			segs := all[k].Segs[:cap(all[k].Segs)]
			for i := range segs {
				segs[i] = 99
			}
			if k+1 < len(all) && said(all[k+1:]) != said(l[k+1:]) {
				t.Fatal("P0.3: two lists of an answer of All share memory")
			}
		}
		clear(all[:cap(all)])
		for _, id := range []uint32{1, 5, 9} {
			x, _ := m.Get(id)
			clear(x.Segs[:cap(x.Segs)])
		}
		if said(other) != said(l) {
			t.Fatal("P0.3: two answers of All share memory")
		}
		tells(t, "answers are written into", m, l)
		must(t, m.Put(tenant(1)))
		opens(t, "answers are written into", f, l)
	}
	// A Put of what Get answered, written into behind it.
	x, _ := m.Get(5)
	must(t, m.Put(x))
	clear(x.Segs)
	tells(t, "what Get answered is put, and written into", m, l)
	// An answer stays as it was when it was given.
	all := m.All()
	must(t, m.Put(greatest(5)))
	if said(all) != said(l) {
		t.Fatal("P0.3: Put changes what All answered")
	}
}

// Random Puts: the manifest has what a map of the tenants has.
func TestRandomPuts(t *testing.T) {
	random := rand.New(rand.NewSource(4))
	for range 60 {
		f, m := created(t)
		var l []api.Tenant
		for range 40 {
			x := randomTenant(random, uint32(random.Intn(9))<<random.Intn(29))
			there := slices.ContainsFunc(l, func(y api.Tenant) bool { return y.Id == x.Id })
			bad := random.Intn(5) == 0
			if bad {
				x.Epoch = 0
			}
			switch {
			case !there && len(l) == 6:
				refuses(t, "random Puts", m, x, api.ErrFull)
			case bad:
				refuses(t, "random Puts", m, x, api.ErrForm)
			default:
				l = puts(t, "random Puts", f, m, l, x)
			}
			if random.Intn(10) == 0 {
				m = opens(t, "random Puts", f, l)
			}
		}
	}
}
