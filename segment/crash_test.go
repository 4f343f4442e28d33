package segment

import (
	"bytes"
	"math/rand"
	"slices"
	"strconv"
	"testing"

	"stillroom/api"
	"stillroom/disk"
)

// flags is the n lowest bits of bits, as what a crash keeps.
func flags(bits, n int) []bool {
	keep := make([]bool, n)
	for i := range keep {
		keep[i] = bits>>i&1 == 1
	}
	return keep
}

// everyCrash calls see with each disk that a crash can leave of f, as far as
// its sectors go.
func everyCrash(f *disk.FS, see func(what string, g *disk.FS)) {
	n := f.Dirty()
	for bits := range 1 << n {
		for torn := -1; torn < n; torn++ {
			what := "keep " + strconv.FormatInt(int64(bits), 2) + ", torn " + strconv.Itoa(torn)
			see(what, f.Crash(0, flags(bits, n), torn))
		}
	}
}

// Each call of the disk fails once, in each place of a row of calls. What was
// done ahead of it and behind it is there.
func TestDiskThatFails(t *testing.T) {
	l := [][]api.Record{{part(1, "first"), part(2, "")}, {part(3, textOf(1, 300))}, {part(4, "x"), part(5, "y"), part(6, "z")}}
	for n := range 8 {
		f := disk.New(10000)
		f.Fail(n)
		s, err := Create(f, own, num)
		if n < 2 {
			if s != nil || err != api.ErrIO || f.Used() != 0 {
				t.Errorf("P8.1: Create, the disk's call %d fails: error %d", n, err)
			}
			continue
		}
		must(t, err)
		var want []byte
		for k, group := range l {
			if n == 2+2*k {
				refuses(t, "a disk that fails", f, s, group, api.ErrIO)
			} else {
				appends(t, "a disk that fails later", f, s, group)
				want = append(want, written(group...)...)
			}
			holds(t, "a disk that fails", f, s, want)
			wantErr := api.OK
			if n == 3+2*k {
				wantErr = api.ErrIO
			}
			if err := s.Sync(); err != wantErr {
				t.Errorf("P8.1: Sync, the disk's call %d fails: error %d, want %d", n, err, wantErr)
			}
			if err == api.OK && wantErr == api.OK && f.Dirty() != 0 {
				t.Errorf("P8.1: %d sectors are dirty behind Sync", f.Dirty())
			}
			holds(t, "a disk that fails", f, s, want)
		}
		again, err := Open(f, own, num)
		must(t, err)
		holds(t, "a disk that failed", f, again, want)
		appends(t, "a disk that failed", f, again, l[0])
	}
}

// A first call that failed did nothing, so all may be done once more.
func TestCreateBehindAFailure(t *testing.T) {
	f := disk.New(1000)
	f.Fail(0)
	if s, err := Create(f, own, num); s != nil || err != api.ErrIO || len(f.Names()) != 0 {
		t.Fatalf("P8.1: Create, the disk fails: error %d, %q", err, f.Names())
	}
	s, err := Create(f, own, num)
	if err != api.OK {
		t.Fatalf("P8.1: Create behind a failure: error %d", err)
	}
	holds(t, "one that was created behind a failure", f, s, nil)
}

func TestDiskThatIsFull(t *testing.T) {
	l := []api.Record{part(1, "first"), part(2, textOf(1, 100))}
	need := len(written(l...))
	f := disk.New(need - 1)
	s, err := Create(f, own, num)
	must(t, err)
	refuses(t, "a disk without room", f, s, l, api.ErrFull)
	holds(t, "a disk without room", f, s, nil)
	appends(t, "a disk with room for one", f, s, l[:1])
	refuses(t, "a disk without room", f, s, l[1:], api.ErrFull)
	holds(t, "a disk with room for one", f, s, written(l[0]))
	f.Room(need)
	appends(t, "a disk with room", f, s, l[1:])
	refuses(t, "a disk without room", f, s, l[:1], api.ErrFull)
	holds(t, "a disk with room", f, s, written(l...))
}

// Behind a Sync no crash takes anything.
func TestCrashBehindSync(t *testing.T) {
	f, s := created(t)
	l := []api.Record{part(1, "first"), part(2, textOf(1, 100)), part(3, "")}
	appends(t, "a segment", f, s, l)
	if f.Dirty() == 0 {
		t.Fatal("P8.1: nothing is dirty behind Append")
	}
	calls := f.Calls()
	if err := s.Sync(); err != api.OK || f.Calls() != calls+1 || f.Dirty() != 0 {
		t.Fatalf("P8.1: Sync: error %d, %d changing calls, %d sectors are dirty", err, f.Calls()-calls, f.Dirty())
	}
	for torn := -1; torn < 3; torn++ {
		g := f.Crash(0, nil, torn)
		x, err := Open(g, own, num)
		must(t, err)
		holds(t, "a crash behind Sync", g, x, written(l...))
		appends(t, "a crash behind Sync", g, x, l)
	}
}

// Of what was not synced the first records may have come, each as it was
// written; what was synced ahead of them is there.
func TestCrashWithoutSync(t *testing.T) {
	synced := []api.Record{part(1, "synced"), part(2, textOf(1, 20))}
	for _, group := range [][]api.Record{
		{part(3, "")},
		{part(3, textOf(2, 200))},
		{part(3, "a"), part(4, ""), part(5, textOf(3, 30)), part(6, "b")},
		{part(3, textOf(4, 70)), part(4, textOf(5, 90)), part(5, "")},
	} {
		f, s := created(t)
		appends(t, "a segment", f, s, synced)
		must(t, s.Sync())
		appends(t, "a segment", f, s, group)
		all := s.Records()
		counts := map[int]bool{}
		everyCrash(f, func(what string, g *disk.FS) {
			left := fileOf(g)
			x, err := Open(g, own, num)
			must(t, err)
			holds(t, what, g, x, left)
			got := x.Records()
			if len(got) < len(synced) || len(got) > len(all) || !slices.Equal(got, all[:len(got)]) {
				t.Fatalf("P8.1: %s: %s of %s", what, told(got), told(all))
			}
			counts[len(got)] = true
			if _, whole := reckoned(left); whole {
				appends(t, what, g, x, []api.Record{part(9, "behind")})
			} else {
				refuses(t, what, g, x, []api.Record{part(9, "behind")}, api.ErrCorrupt)
			}
		})
		if !counts[len(synced)] || !counts[len(all)] {
			t.Errorf("P8.1: crashes leave %v records", counts)
		}
		holds(t, "the disk that crashed", f, s, written(append(slices.Clone(synced), group...)...))
	}
}

// The file's name lasts as soon as it is created, its bytes not before Sync.
func TestCrashOfANewSegment(t *testing.T) {
	f, s := created(t)
	appends(t, "a segment", f, s, []api.Record{part(1, "first")})
	g := f.Crash(0, nil, -1)
	x, err := Open(g, own, num)
	if err != api.OK {
		t.Fatalf("P8.1: Open behind a crash: error %d", err)
	}
	holds(t, "a new segment behind a crash", g, x, nil)
	appends(t, "a new segment behind a crash", g, x, []api.Record{part(2, "second")})
}

// Random calls, failures, crashes and openings, against the bytes alone.
func TestRandomCalls(t *testing.T) {
	random := rand.New(rand.NewSource(4))
	for range 60 {
		f, s := created(t)
		var now []byte
		for range 30 {
			what := "random calls"
			_, whole := reckoned(now)
			group := randomGroup(random)
			switch random.Intn(8) {
			case 0:
				must(t, s.Sync())
				what += ", Sync"
			case 1:
				f.Fail(0)
				want := api.ErrIO
				if !whole {
					want = api.ErrCorrupt
				}
				refuses(t, what, f, s, group, want)
				f.Fail(-1)
			case 2:
				if n := f.Dirty(); random.Intn(3) == 0 {
					f = f.Crash(0, flags(random.Int(), n), random.Intn(n+2)-1)
				}
				x, err := Open(f, own, num)
				must(t, err)
				s, now, what = x, fileOf(f), what+", Open"
			default:
				if !whole {
					refuses(t, what, f, s, group, api.ErrCorrupt)
					continue
				}
				appends(t, what, f, s, group)
				now = append(now, written(group...)...)
			}
			want, _ := reckoned(now)
			if got := s.Records(); !slices.Equal(got, want) || s.Size() != len(now) || !bytes.Equal(fileOf(f), now) {
				t.Fatalf("P8.1: %s: %s, %d bytes, want %s, %d", what, told(got), s.Size(), told(want), len(now))
			}
			readsRight(t, what, s, now, random.Intn(len(now)+2)-1)
			if len(want) > 0 {
				readsRight(t, what, s, now, want[random.Intn(len(want))].At)
			}
		}
	}
}
