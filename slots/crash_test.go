package slots

import (
	"bytes"
	"math/rand"
	"strconv"
	"testing"

	"stillroom/api"
	"stillroom/disk"
)

// Where a call of Create fails, the file is not there, or all of it is, in
// whatever way the disk crashes then.
func TestCreateOnADiskThatFails(t *testing.T) {
	for _, text := range []string{"", "text", textOf(1, 200), textOf(2, 4080)} {
		for n := range 5 {
			what := "the disk's call " + strconv.Itoa(n) + " fails"
			f := disk.New(api.MaxDisk)
			lay(t, f, "other", []byte("other"))
			f.Fail(n)
			if s, err := Create(f, name, []byte(text)); s != nil || err != api.ErrIO {
				t.Fatalf("P9.1: Create, %s: error %d", what, err)
			}
			if n < 4 {
				opensNone(t, what, f, name, api.ErrNotFound)
			}
			there, absent := 0, 0
			for changes := range 4 {
				everyCrash(f, changes, func(crash string, g *disk.FS) {
					if string(fileOf(g, "other")) != "other" {
						t.Fatalf("P9.1: %s, %s: another file has changed", what, crash)
					}
					if g.Size(name) < 0 {
						absent++
						return
					}
					there++
					s := opens(t, what+", "+crash, g, standing{1, text})
					must(t, s.Save([]byte("next")))
					tells(t, what+", "+crash, s, standing{2, "next"})
				})
			}
			if absent == 0 || there > 0 && n < 4 || there == 0 && n == 4 {
				t.Errorf("P9.1: Create, %s: it is there behind %d crashes, not behind %d", what, there, absent)
			}
		}
	}
}

// Create does all by five changing calls, and the next Create does all anew.
func TestCreateBehindAFailure(t *testing.T) {
	for n := range 6 {
		f := disk.New(8192)
		f.Fail(n)
		s, err := Create(f, name, []byte("first"))
		switch {
		case n == 5:
			if err != api.OK || f.SyncDir() != api.ErrIO {
				t.Errorf("P9.1: Create by %d changing calls: error %d", f.Calls(), err)
			}
			continue
		case s != nil || err != api.ErrIO:
			t.Fatalf("P9.1: Create, the disk's call %d fails: error %d", n, err)
		case n == 4:
			continue
		}
		s, err = Create(f, name, []byte("second"))
		if err != api.OK || len(f.Names()) != 1 || f.Used() != 8192 {
			t.Fatalf("P9.1: Create behind a failure of call %d: error %d, %q", n, err, f.Names())
		}
		saves(t, "a file behind a failure", f, s, 1, standing{2, "third"})
	}
}

// Until all calls of Create are done, a crash behind each of them leaves no
// file or all of it.
func TestCrashBehindCreate(t *testing.T) {
	f, _ := created(t, "text")
	for changes := -1; changes < 4; changes++ {
		everyCrash(f, changes, func(what string, g *disk.FS) {
			opens(t, what, g, standing{1, "text"})
			if len(g.Names()) != 1 {
				t.Fatalf("P9.1: %s: files %q", what, g.Names())
			}
		})
	}
}

// Where a call of Save fails, the text is as it was, and the next Save goes to
// the same slot, with a greater turn than the one that failed.
func TestSaveOnADiskThatFails(t *testing.T) {
	for failures := range 8 {
		f, s := created(t, "first")
		saves(t, "a file", f, s, 1, standing{2, "second"})
		for k := range 3 {
			last := standing{s.Turn(), string(s.Text())}
			_, slot := latestIn(fileOf(f, name))
			stands := fileOf(f, name)[slot*4096 : (slot+1)*4096]
			for i := range failures {
				f.Fail((i + k + failures) % 2)
				refuses(t, "a disk that fails", s, "lost "+strconv.Itoa(i)+textOf(1, 10*i), api.ErrIO)
				if got := fileOf(f, name); len(got) != 8192 || !bytes.Equal(got[slot*4096:(slot+1)*4096], stands) {
					t.Fatalf("P9.1: a Save that failed changes the slot of the last text")
				}
			}
			if err := s.Save([]byte("saved")); err != api.OK || string(s.Text()) != "saved" {
				t.Fatalf("P9.1: Save behind %d failures: error %d, %q", failures, err, s.Text())
			}
			least := last.turn + 1
			if failures > 0 {
				least++ // greater than that of the Save that failed
			}
			if s.Turn() < least || s.Turn() > last.turn+1+uint64(failures) {
				t.Fatalf("P9.1: turn %d behind turn %d and %d failures", s.Turn(), last.turn, failures)
			}
			b := fileOf(f, name)
			if !bytes.HasPrefix(b[(1-slot)*4096:], slotOf(s.Turn(), "saved")) || !bytes.Equal(b[slot*4096:(slot+1)*4096], stands) {
				t.Fatalf("P9.1: a Save behind %d failures goes to another slot", failures)
			}
			opens(t, "behind failures", f.Crash(0, nil, -1), standing{s.Turn(), "saved"})
		}
	}
}

// Save does all by two changing calls, also where a file was opened and all is
// synced.
func TestSaveByTwoCalls(t *testing.T) {
	f, s := created(t, "first")
	for _, x := range []*File{s, opens(t, "a file", f, standing{1, "first"})} {
		f.Fail(2)
		must(t, x.Save([]byte("second")))
		if f.SyncDir() != api.ErrIO {
			t.Errorf("P9.1: Save by more than two changing calls")
		}
	}
}

// A turn of a Save that failed at its Sync may stand in the file: no later one
// gets it, whatever was saved between.
func TestTurnsBehindFailuresAreGreater(t *testing.T) {
	f, s := created(t, "first")
	greatest := uint64(1)
	for k := range 20 {
		if k%3 > 0 {
			f.Fail(k % 2)
			refuses(t, "a disk that fails", s, "lost", api.ErrIO)
			latest, _ := latestIn(fileOf(f, name))
			greatest = max(greatest, latest.turn)
			continue
		}
		must(t, s.Save([]byte("saved")))
		if s.Turn() <= greatest {
			t.Fatalf("P9.1: turn %d, though turn %d was there", s.Turn(), greatest)
		}
		greatest = s.Turn()
	}
}

// A crash while a Save is under way leaves the text that was saved last, or the
// one under way.
func TestCrashWhileSaving(t *testing.T) {
	texts := []string{"", "short", textOf(1, 15), textOf(2, 100), textOf(3, 500), textOf(4, 4080)}
	for i, last := range texts {
		for k, lost := range texts {
			f, s := created(t, "first")
			if i%2 == 0 {
				saves(t, "a file", f, s, 1, standing{2, textOf(int64(k), 1000)})
			}
			must(t, s.Save([]byte(last)))
			turn := s.Turn()
			f.Fail(1)
			refuses(t, "the Sync fails", s, lost, api.ErrIO)
			old, latest := 0, 0
			everyCrash(f, 0, func(what string, g *disk.FS) {
				x, err := Open(g, name)
				if err != api.OK {
					t.Fatalf("P9.1: %s: Open: error %d", what, err)
				}
				switch {
				case x.Turn() == turn && string(x.Text()) == last:
					old++
				case x.Turn() > turn && string(x.Text()) == lost:
					latest++
				default:
					t.Fatalf("P9.1: %s: turn %d, %s", what, x.Turn(), short(string(x.Text())))
				}
				next := standing{x.Turn() + 1, "next"}
				must(t, x.Save([]byte(next.text)))
				opens(t, what, g, next)
			})
			if old == 0 || latest == 0 {
				t.Errorf("P9.1: behind %d crashes it is the last text, behind %d the one under way", old, latest)
			}
		}
	}
}

// A Save may fail, the file be opened without a crash, and the next Save fail
// too: behind a crash there is one of the texts yet.
func TestCrashBehindAnOpenOnADiskThatFailed(t *testing.T) {
	for n := range 4 {
		f, s := created(t, "first")
		must(t, s.Save([]byte("second")))
		f.Fail(1)
		lost, more := textOf(1, 500), textOf(2, 500)
		refuses(t, "the Sync fails", s, lost, api.ErrIO)
		x, err := Open(f, name)
		must(t, err)
		f.Fail(n)
		if err := x.Save([]byte(more)); n < 2 && err != api.ErrIO {
			t.Fatalf("P9.1: Save, the disk's call %d fails: error %d", n, err)
		} else if err == api.OK {
			opens(t, "saved behind a failure", f.Crash(0, nil, -1), standing{x.Turn(), more})
			continue
		}
		everyCrash(f, 0, func(what string, g *disk.FS) {
			y, err := Open(g, name)
			if err != api.OK {
				t.Fatalf("P9.1: two Saves failed, the last at call %d, %s: Open: error %d", n, what, err)
			}
			switch got := string(y.Text()); got {
			case "second", lost, more:
			default:
				t.Fatalf("P9.1: two Saves failed, %s: %s", what, short(got))
			}
		})
		must(t, x.Save([]byte("behind all that")))
		opens(t, "saved behind two failures", f.Crash(0, nil, -1), standing{x.Turn(), "behind all that"})
		f.Fail(2)
		must(t, x.Save([]byte("by two calls again")))
		if f.SyncDir() != api.ErrIO {
			t.Errorf("P9.1: a later Save by more than two changing calls")
		}
	}
}

// A Write that fails leaves nothing of its text.
func TestCrashBehindAWriteThatFailed(t *testing.T) {
	f, s := created(t, "first")
	saves(t, "a file", f, s, 1, standing{2, "second"})
	before := fileOf(f, name)
	f.Fail(0)
	refuses(t, "the Write fails", s, "lost", api.ErrIO)
	if !bytes.Equal(fileOf(f, name), before) {
		t.Error("P9.1: a Write that failed changes the file")
	}
	everyCrash(f, 0, func(what string, g *disk.FS) {
		opens(t, what, g, standing{2, "second"})
	})
}

// Random calls, failures, crashes and openings: what is told is what was saved
// last, or behind a crash one that was under way since.
func TestRandomCalls(t *testing.T) {
	random := rand.New(rand.NewSource(3))
	underWay := 0
	for range 40 {
		f, s := created(t, "first")
		last := standing{1, "first"}
		lost := map[string]uint64{} // the texts of Saves that failed since, and turns ahead of theirs
		for range 40 {
			text := textOf(random.Int63(), random.Intn(4081)>>random.Intn(12))
			switch random.Intn(7) {
			case 0, 1:
				f.Fail(random.Intn(2))
				refuses(t, "random calls", s, text, api.ErrIO)
				lost[text] = last.turn
			case 3:
				x, err := Open(f, name)
				must(t, err)
				got := standing{x.Turn(), string(x.Text())}
				if turn, ok := lost[got.text]; got != last && (!ok || got.turn <= turn) {
					t.Fatalf("P9.1: random calls: Open tells turn %d, %s", got.turn, short(got.text))
				}
				lost[last.text] = last.turn - 1
				s, last = x, got
			case 2:
				n := f.Dirty()
				keep := flags(n, func(int) bool { return random.Intn(4) > 0 })
				f = f.Crash(0, keep, random.Intn(n+2)-1)
				x, err := Open(f, name)
				if err != api.OK {
					t.Fatalf("P9.1: random calls: Open behind a crash: error %d", err)
				}
				s = x
				got := standing{s.Turn(), string(s.Text())}
				if turn, ok := lost[got.text]; got != last && (!ok || got.turn <= turn) {
					t.Fatalf("P9.1: random calls: a crash leaves turn %d, %s", got.turn, short(got.text))
				}
				if got != last {
					underWay++
				}
				last = got
				clear(lost)
			default:
				must(t, s.Save([]byte(text)))
				if s.Turn() <= last.turn {
					t.Fatalf("P9.1: random calls: turn %d behind %d", s.Turn(), last.turn)
				}
				last = standing{s.Turn(), text}
				clear(lost)
				opens(t, "random calls", f, last)
			}
			tells(t, "random calls", s, last)
		}
	}
	if underWay == 0 {
		t.Error("no crash leaves a text that was under way")
	}
}
