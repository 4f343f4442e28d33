package manifest

import (
	"math/rand"
	"slices"
	"strconv"
	"testing"

	"stillroom/api"
	"stillroom/disk"
)

// Where a call of Create fails, the file is not there, or it has no tenants, in
// whatever way the disk crashes then.
func TestCreateOnADiskThatFails(t *testing.T) {
	for n := range 5 {
		what := "the disk's call " + strconv.Itoa(n) + " fails"
		f := disk.New(api.MaxDisk)
		lay(t, f, "other", []byte("other"))
		f.Fail(n)
		if m, err := Create(f); m != nil || err != api.ErrIO {
			t.Fatalf("P10.2: Create, %s: error %d", what, err)
		}
		there, absent := 0, 0
		for changes := range 4 {
			everyCrash(f, changes, func(crash string, g *disk.FS) {
				if string(fileOf(g, "other")) != "other" {
					t.Fatalf("P10.2: %s, %s: another file has changed", what, crash)
				}
				if g.Size("MAN") < 0 {
					absent++
					opensNone(t, what+", "+crash, g, api.ErrNotFound)
					m, err := Create(g)
					must(t, err)
					tells(t, what+", "+crash+", created then", m, nil)
					return
				}
				there++
				m := opens(t, what+", "+crash, g, nil)
				puts(t, what+", "+crash, g, m, nil, tenant(1))
			})
		}
		if absent == 0 || there > 0 && n < 4 || there == 0 && n == 4 {
			t.Errorf("P10.2: Create, %s: it is there behind %d crashes, not behind %d", what, there, absent)
		}
	}
	f := disk.New(api.MaxDisk)
	f.Fail(5)
	if _, err := Create(f); err != api.OK || f.SyncDir() != api.ErrIO {
		t.Errorf("P10.2: Create by %d changing calls: error %d", f.Calls(), err)
	}
}

// A manifest that was created lasts.
func TestCrashBehindCreate(t *testing.T) {
	f, _ := created(t)
	for changes := -1; changes < 3; changes++ {
		everyCrash(f, changes, func(what string, g *disk.FS) {
			opens(t, what, g, nil)
			if !slices.Equal(g.Names(), []string{"MAN"}) {
				t.Fatalf("P10.2: %s: files %q", what, g.Names())
			}
		})
	}
}

// steps are Puts of all kinds: tenants ahead of, between and behind others, and
// in another's place, small and as great as may be.
func steps() []api.Tenant {
	return []api.Tenant{
		tenant(5), tenant(1), tenant(9), greatest(7), {Id: 5, Epoch: 9, Quota: 1000, Next: 1, NextSeg: 1},
		greatest(3), tenant(7), greatest(5), {Id: 8, Epoch: 1, Quota: 1000, Next: 1, NextSeg: 1}, greatest(1), tenant(5),
	}
}

// Where a call of Put fails, nothing has changed, and the next Put does all
// anew; a crash leaves the tenants of the last Put that came back, or those of
// the one under way.
func TestPutOnADiskThatFails(t *testing.T) {
	for n := range 2 {
		f, m := created(t)
		var l []api.Tenant
		underWay, last := 0, 0
		for k, x := range steps() {
			what := "Put " + strconv.Itoa(k) + ", the disk's call " + strconv.Itoa(n) + " fails"
			f.Fail(n)
			refuses(t, what, m, x, api.ErrIO)
			tells(t, what, m, l)
			next := with(l, x)
			everyCrash(f, 0, func(crash string, g *disk.FS) {
				y, err := Open(g)
				if err != api.OK {
					t.Fatalf("P10.2: %s, %s: Open: error %d", what, crash, err)
				}
				switch got := y.All(); {
				case same(got, l):
					last++
				case same(got, next):
					underWay++
				default:
					t.Fatalf("P10.2: %s, %s: %s", what, crash, short(got))
				}
				must(t, y.Put(tenant(1)))
				opens(t, what+", "+crash+", put then", g, with(y.All(), tenant(1)))
			})
			l = puts(t, what+", and then not", f, m, l, x)
		}
		if last == 0 || n == 0 && underWay > 0 || n == 1 && underWay == 0 {
			t.Errorf("P10.2: call %d of Put fails: behind %d crashes it is the last one, behind %d the one under way", n, last, underWay)
		}
	}
}

// Put does all by two changing calls, and no crash behind it takes it back.
func TestCrashBehindPut(t *testing.T) {
	f, m := created(t)
	var l []api.Tenant
	for k, x := range steps() {
		f.Fail(2)
		l = puts(t, "two calls", f, m, l, x)
		if f.SyncDir() != api.ErrIO {
			t.Errorf("P10.2: Put by more than two changing calls")
		}
		everyCrash(f, -1+k%3, func(what string, g *disk.FS) {
			opens(t, what, g, l)
		})
	}
}

// Several Puts fail one behind the other: a crash leaves the last one that came
// back, or one of these.
func TestPutsThatFailOneBehindTheOther(t *testing.T) {
	f, m := created(t, tenants(1, 5)...)
	l := tenants(1, 5)
	var lost []string
	for k, x := range steps() {
		f.Fail(k % 2)
		refuses(t, "one behind the other", m, x, api.ErrIO)
		lost = append(lost, said(with(l, x)))
		everyCrash(f, 0, func(what string, g *disk.FS) {
			y, err := Open(g)
			if err != api.OK {
				t.Fatalf("P10.2: %d Puts failed, %s: Open: error %d", k+1, what, err)
			}
			if got := said(y.All()); got != said(l) && !slices.Contains(lost, got) {
				t.Fatalf("P10.2: %d Puts failed, %s: %s", k+1, what, short(y.All()))
			}
		})
	}
	puts(t, "behind Puts that failed", f, m, l, tenant(3))
}

// Random Puts, failures, crashes and openings.
func TestRandomCalls(t *testing.T) {
	random := rand.New(rand.NewSource(5))
	underWay := 0
	for range 40 {
		f, m := created(t)
		var l []api.Tenant
		lost := map[string][]api.Tenant{} // what Puts that failed since would have made of it
		for range 50 {
			x := randomTenant(random, uint32(random.Intn(6)))
			next := with(l, x)
			switch random.Intn(7) {
			case 0, 1:
				f.Fail(random.Intn(2))
				refuses(t, "random calls", m, x, api.ErrIO)
				lost[said(next)] = next
			case 3:
				y, err := Open(f)
				must(t, err)
				if got := y.All(); !same(got, l) {
					was, ok := lost[said(got)]
					if !ok {
						t.Fatalf("P10.2: random calls: Open tells %s, want %s", short(got), short(l))
					}
					lost[said(l)] = l
					l = was
				}
				m = y
			case 2:
				n := f.Dirty()
				f = f.Crash(0, flags(n, func(int) bool { return random.Intn(4) > 0 }), random.Intn(n+2)-1)
				y, err := Open(f)
				if err != api.OK {
					t.Fatalf("P10.2: random calls: Open behind a crash: error %d", err)
				}
				m = y
				if got := m.All(); !same(got, l) {
					was, ok := lost[said(got)]
					if !ok {
						t.Fatalf("P10.2: random calls: a crash leaves %s, want %s", short(got), short(l))
					}
					underWay++
					l = was
				}
				clear(lost)
			default:
				must(t, m.Put(x))
				l = next
				clear(lost)
				opens(t, "random calls", f, l)
			}
			tells(t, "random calls", m, l)
		}
	}
	if underWay == 0 {
		t.Error("no crash leaves tenants of a Put that was under way")
	}
}
