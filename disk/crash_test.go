package disk

import (
	"math"
	"strconv"
	"strings"
	"testing"

	"stillroom/api"
)

// zeros is n bytes that were never synced.
func zeros(n int) string { return strings.Repeat("\x00", n) }

// rep is n times the text.
func rep(text string, n int) string { return strings.Repeat(text, n) }

// flags is keep as digits: "01" keeps the second of two.
func flags(digits string) []bool {
	keep := make([]bool, len(digits))
	for i := range keep {
		keep[i] = digits[i] == '1'
	}
	return keep
}

func TestDirtySectors(t *testing.T) {
	cases := []struct {
		size, at, n int
		want        int
	}{
		{0, 0, 0, 0}, {0, 0, 1, 1}, {0, 0, 64, 1}, {0, 0, 65, 2}, {0, 0, 128, 2}, {0, 0, 640, 10},
		{300, 0, 0, 0}, {300, 64, 0, 0}, {300, 70, 0, 0}, {300, 300, 0, 0},
		{300, 0, 1, 1}, {300, 63, 1, 1}, {300, 64, 1, 1}, {300, 63, 2, 2}, {300, 64, 64, 1}, {300, 65, 64, 2}, {300, 63, 66, 3}, {300, 0, 300, 5},
		{300, 299, 1, 1}, {300, 300, 1, 1}, {300, 300, 20, 1}, {300, 300, 21, 2}, {320, 320, 1, 1}, {320, 319, 2, 2},
	}
	for _, c := range cases {
		f := diskWith(t, rep("a", c.size))
		// The same bytes again: it counts that they were written.
		must(t, f.Write("a", c.at, []byte(rep("a", c.n))))
		if got := f.Dirty(); got != c.want {
			t.Errorf("P5.3: %d bytes at %d of %d: %d sectors are dirty, want %d", c.n, c.at, c.size, got, c.want)
		}
		must(t, f.Write("a", c.at, []byte(rep("b", c.n))))
		if got := f.Dirty(); got != c.want {
			t.Errorf("P5.3: %d bytes at %d of %d, twice: %d sectors are dirty, want %d", c.n, c.at, c.size, got, c.want)
		}
		must(t, f.SyncDir())
		if got := f.Dirty(); got != c.want {
			t.Errorf("P5.3: SyncDir cleans sectors: %d, want %d", got, c.want)
		}
		must(t, f.Sync("a"))
		if got := f.Dirty(); got != 0 {
			t.Errorf("P5.3: %d bytes at %d of %d: %d sectors are dirty behind Sync", c.n, c.at, c.size, got)
		}
	}
}

func TestDirtySectorsOfAllFiles(t *testing.T) {
	f := diskWith(t, rep("a", 100))
	must(t, f.Create("b"))
	must(t, f.Write("b", 0, make([]byte, 130)))
	must(t, f.Write("a", 64, []byte("x")))
	steps := []struct {
		step func() api.Errno
		want int
	}{
		{func() api.Errno { return f.Rename("b", "c") }, 4},
		{func() api.Errno { return f.Sync("a") }, 3},
		{func() api.Errno { return f.Write("a", 0, []byte("y")) }, 4},
		{func() api.Errno { return f.Remove("a") }, 3},
		{func() api.Errno { return f.Create("c") }, 0},
	}
	if f.Dirty() != 4 {
		t.Errorf("P5.3: %d sectors are dirty", f.Dirty())
	}
	for k, s := range steps {
		must(t, s.step())
		if f.Dirty() != s.want {
			t.Errorf("P5.3, %d: %d sectors are dirty, want %d", k, f.Dirty(), s.want)
		}
	}
}

func TestCrashWithSomeChanges(t *testing.T) {
	f := diskWith(t, "A")
	changes := []struct {
		change func() api.Errno
		after  string
	}{
		{func() api.Errno { return f.Create("b") }, "a:A b: "},
		{func() api.Errno { return f.Rename("a", "c") }, "b: c:A "},
		{func() api.Errno { return f.Rename("c", "c") }, "b: c:A "},
		{func() api.Errno { return f.Rename("c", "b") }, "b:A "},
		{func() api.Errno { return f.Create("b") }, "b: "},
		{func() api.Errno { return f.Remove("b") }, ""},
		{func() api.Errno { return f.Create("a") }, "a: "},
	}
	want := []string{"a:A "}
	for _, c := range changes {
		must(t, c.change())
		want = append(want, c.after)
		for n := -1; n <= len(changes)+1; n++ {
			sure := want[min(max(n, 0), len(want)-1)]
			if got := contents(f.Crash(n, nil, -1)); got != sure {
				t.Errorf("P5.3: %d of %d changes: %q, want %q", n, len(want)-1, got, sure)
			}
		}
	}
	last := want[len(want)-1]
	if got := contents(f.Crash(math.MinInt, nil, -1)); got != want[0] {
		t.Errorf("P5.3: the fewest changes: %q", got)
	}
	if got := contents(f.Crash(math.MaxInt, nil, -1)); got != last {
		t.Errorf("P5.3: the most changes: %q", got)
	}
	must(t, f.SyncDir())
	for _, n := range []int{-1, 0, 1, 100} {
		if got := contents(f.Crash(n, nil, -1)); got != last {
			t.Errorf("P5.3: %d changes behind SyncDir: %q", n, got)
		}
	}
}

// Calls that fail, and those of files, are no changes that wait.
func TestOtherCallsDoNotWait(t *testing.T) {
	f := diskWith(t, "A")
	f.Create("no name")
	f.Rename("x", "y")
	f.Rename("a", "no name")
	f.Remove("x")
	f.Fail(0)
	f.Create("b")
	f.Write("a", 0, []byte("B"))
	f.Sync("a")
	must(t, f.Create("z"))
	if got := contents(f.Crash(1, nil, -1)); got != "a:B z: " {
		t.Errorf("P5.3: one change: %q", got)
	}
}

// A file's bytes and its name are synced each for itself.
func TestSyncedBytesWithoutAName(t *testing.T) {
	f := New(1000)
	must(t, f.Create("a"))
	must(t, f.Write("a", 0, []byte("text")))
	must(t, f.Sync("a"))
	if got := contents(f.Crash(0, []bool{true}, -1)); got != "" {
		t.Errorf("P5.3: a file whose name isn't synced: %q", got)
	}
	if got := contents(f.Crash(1, nil, -1)); got != "a:text " {
		t.Errorf("P5.3: a file whose name is written: %q", got)
	}
	must(t, f.Rename("a", "b"))
	must(t, f.SyncDir())
	must(t, f.Write("b", 0, []byte("TEXT")))
	if got := contents(f.Crash(0, nil, -1)); got != "b:text " {
		t.Errorf("P5.3: a name that is synced, bytes that aren't: %q", got)
	}
}

// A file that has no name any more comes back with its dirty sectors.
func TestCrashBringsFilesBack(t *testing.T) {
	f := diskWith(t, "text")
	must(t, f.Write("a", 0, []byte("T")))
	must(t, f.Create("a"))
	must(t, f.Write("a", 0, []byte("new")))
	must(t, f.Remove("a"))
	for k, c := range []struct {
		n    int
		keep string
		want string
	}{
		{0, "", "a:text "}, {0, "1", "a:Text "}, {0, "01", "a:text "},
		{1, "", "a: "}, {1, "1", "a:new "}, {2, "1", ""}, {9, "111", ""},
	} {
		if got := contents(f.Crash(c.n, flags(c.keep), -1)); got != c.want {
			t.Errorf("P5.3, %d: %q, want %q", k, got, c.want)
		}
	}
}

// Here 100 bytes were synced, and sectors 0 and 1 were written since up to
// their ends, sectors 2 and 3 for the first time, and 4 bytes of sector 4.
func TestCrashOfSectors(t *testing.T) {
	f := diskWith(t, rep("a", 100))
	must(t, f.Write("a", 0, []byte(rep("b", 260))))
	const a, b = "a", "b"
	cases := []struct {
		keep string
		torn int
		want string
	}{
		{"", -1, rep(a, 100)},
		{"0", -1, rep(a, 100)},
		{"00000000", -1, rep(a, 100)},
		{"00000111", 5, rep(a, 100)},
		{"", 5, rep(a, 100)},
		{"", math.MaxInt, rep(a, 100)},
		{"", math.MinInt, rep(a, 100)},
		{"1", -1, rep(b, 64) + rep(a, 36)},
		{"01", -1, rep(a, 64) + rep(b, 64)},
		{"11", -1, rep(b, 128)},
		{"001", -1, rep(a, 100) + zeros(28) + rep(b, 64)},
		{"0001", -1, rep(a, 100) + zeros(92) + rep(b, 64)},
		{"00001", -1, rep(a, 100) + zeros(156) + rep(b, 4)},
		{"10101", -1, rep(b, 64) + rep(a, 36) + zeros(28) + rep(b, 64) + zeros(64) + rep(b, 4)},
		{"11111", -1, rep(b, 260)},
		{"11111111", 7, rep(b, 260)},
		{"", 0, rep(b, 32) + rep(a, 68)},
		{"1", 0, rep(b, 32) + rep(a, 68)},
		{"", 1, rep(a, 64) + rep(b, 32) + rep(a, 4)},
		{"11", 1, rep(b, 96) + rep(a, 4)},
		{"", 2, rep(a, 100) + zeros(28) + rep(b, 32)},
		{"", 3, rep(a, 100) + zeros(92) + rep(b, 32)},
		{"", 4, rep(a, 100) + zeros(156) + rep(b, 4)},
		{"11111", 4, rep(b, 260)},
		{"11111", 3, rep(b, 224) + zeros(32) + rep(b, 4)},
		{"11111", 2, rep(b, 160) + zeros(32) + rep(b, 68)},
		{"11111", 1, rep(b, 96) + rep(a, 4) + zeros(28) + rep(b, 132)},
		{"11111", 0, rep(b, 32) + rep(a, 32) + rep(b, 196)},
		{"0001", 2, rep(a, 100) + zeros(28) + rep(b, 32) + zeros(32) + rep(b, 64)},
		{"01", 2, rep(a, 64) + rep(b, 96)},
	}
	for _, c := range cases {
		if got := contents(f.Crash(0, flags(c.keep), c.torn)); got != "a:"+c.want+" " {
			t.Errorf("P5.3: keep %s, torn %d: %q, want %q", c.keep, c.torn, got, c.want)
		}
	}
}

// At a file's end a torn sector has less than half of it to write, or as much,
// or more, and its synced bytes end ahead of that, there, or behind it.
func TestTornAtTheEndOfAFile(t *testing.T) {
	for _, start := range []int{0, 64, 640} {
		for synced := range 65 {
			for now := synced; now <= 64; now++ {
				if now == 0 {
					continue
				}
				f := diskWith(t, rep("a", start+synced))
				must(t, f.Write("a", start, []byte(rep("b", now))))
				half := min(now, 32)
				want := rep("a", start) + rep("b", half)
				if synced > half {
					want += rep("a", synced-half)
				}
				if got := contents(f.Crash(0, nil, 0)); got != "a:"+want+" " {
					t.Fatalf("P5.3: %d of %d bytes were synced in sector %d: %q, want %q", synced, now, start/64, got, want)
				}
			}
		}
	}
}

// Bytes of a dirty sector that were not written since are as synced, which is
// as they are now.
func TestSectorsThatWereWrittenInPart(t *testing.T) {
	f := diskWith(t, rep("a", 128))
	must(t, f.Write("a", 70, []byte("b")))
	must(t, f.Write("a", 100, []byte("c")))
	first, third := rep("a", 70)+"b"+rep("a", 29), rep("a", 27)
	for k, c := range []struct {
		keep string
		torn int
		want string
	}{{"", -1, rep("a", 128)}, {"1", -1, first + "c" + third}, {"", 0, first + "a" + third}, {"1", 0, first + "a" + third}, {"01", 1, rep("a", 128)}} {
		if got := contents(f.Crash(0, flags(c.keep), c.torn)); got != "a:"+c.want+" " {
			t.Errorf("P5.3, %d: %q", k, got)
		}
	}
}

// The dirty sectors are counted through all files of the directory that the
// crash leaves, by the names that they have in it.
func TestDirtySectorsAreCountedThroughFiles(t *testing.T) {
	f := New(1000)
	for _, name := range []string{"c", "a", "b"} {
		must(t, f.Create(name))
		must(t, f.Write(name, 0, []byte("..")))
		must(t, f.Sync(name))
	}
	must(t, f.SyncDir())
	for _, name := range []string{"b", "c", "a"} {
		must(t, f.Write(name, 0, []byte(name)))
	}
	must(t, f.Rename("a", "z"))
	must(t, f.Remove("b"))
	must(t, f.Sync("c"))
	for k, c := range []struct {
		n    int
		keep string
		torn int
		want string
	}{
		{0, "1", -1, "a:a. b:.. c:c. "}, {0, "01", -1, "a:.. b:b. c:c. "}, {0, "", 1, "a:.. b:b. c:c. "}, {0, "001", 2, "a:.. b:.. c:c. "},
		{1, "1", -1, "b:b. c:c. z:.. "}, {1, "01", -1, "b:.. c:c. z:a. "}, {1, "1", 1, "b:b. c:c. z:a. "},
		{2, "1", -1, "c:c. z:a. "}, {2, "01", -1, "c:c. z:.. "}, {2, "", 0, "c:c. z:a. "},
	} {
		if got := contents(f.Crash(c.n, flags(c.keep), c.torn)); got != c.want {
			t.Errorf("P5.3, %d: %q, want %q", k, got, c.want)
		}
	}
}

func TestWhatACrashLeaves(t *testing.T) {
	f := fixture(t)
	f.Room(20)
	must(t, f.Write("a", 0, []byte("TEXT")))
	f.Read("a", 0, 3)
	f.Fail(0)
	before, calls := state(f), f.Calls()
	g := f.Crash(1, []bool{true, true}, -1)
	if g.Calls() != 0 || g.Reads() != 0 || g.Dirty() != 0 || contents(g) != "a:TEXT dirty:dirty " || g.Used() != 9 {
		t.Errorf("P5.3: %d calls, %d read, %d dirty, %q", g.Calls(), g.Reads(), g.Dirty(), contents(g))
	}
	if got := g.SyncDir(); got != api.OK {
		t.Errorf("P5.3: a Fail waits: error %d", got)
	}
	if g.Write("a", 4, make([]byte, 12)) != api.ErrFull || g.Write("a", 4, make([]byte, 11)) != api.OK {
		t.Errorf("P5.3: another room: %d used", g.Used())
	}
	for n := range 3 {
		if got := contents(g.Crash(n, nil, -1)); got != "a:TEXT dirty:dirty " {
			t.Errorf("P5.3: not all is synced, %d: %q", n, got)
		}
	}
	if state(f) != before || f.Calls() != calls || f.Reads() != 3 || f.SyncDir() != api.ErrIO {
		t.Error("P5.3: the disk that crashed has changed")
	}
}

// Neither disk sees what happens to the other one, nor to another crash.
func TestCrashIsAnotherDisk(t *testing.T) {
	f := fixture(t)
	must(t, f.Write("a", 0, []byte("T")))
	keep := []bool{true, true, false}
	g, h := f.Crash(1, keep[:2], -1), f.Crash(1, keep[:2], -1)
	if !keep[0] || !keep[1] || keep[2] {
		t.Error("P0.3: Crash changes what was handed in")
	}
	wantF, wantH := state(f), state(h)
	must(t, g.Write("a", 0, []byte(rep("g", 100))))
	must(t, g.Write("dirty", 5, []byte("er")))
	must(t, g.Sync("a"))
	must(t, g.Remove("dirty"))
	must(t, g.Create("b"))
	must(t, g.SyncDir())
	if state(f) != wantF || state(h) != wantH {
		t.Error("P5.3: a write on the disk that a crash left is seen elsewhere")
	}
	wantG := state(g)
	must(t, f.Write("a", 1, []byte(rep("f", 100))))
	must(t, f.Sync("a"))
	must(t, f.SyncDir())
	must(t, f.Remove("a"))
	if state(g) != wantG || state(h) != wantH {
		t.Error("P5.3: a write on the disk that crashed is seen on those that it left")
	}
}

// What was lost in a crash doesn't come back when the file grows again.
func TestCrashOfACrash(t *testing.T) {
	f := diskWith(t, rep("a", 10))
	must(t, f.Write("a", 10, []byte(rep("b", 300))))
	g := f.Crash(0, []bool{false, false, true}, -1)
	after := rep("a", 10) + zeros(118) + rep("b", 64)
	if contents(g) != "a:"+after+" " || contents(g.Crash(0, []bool{true}, 0)) != "a:"+after+" " {
		t.Errorf("P5.3: %q", contents(g))
	}
	must(t, g.Write("a", 192, []byte(rep("c", 65))))
	must(t, g.Write("a", 0, []byte("d")))
	if g.Dirty() != 3 {
		t.Errorf("P5.3: %d sectors are dirty behind a crash", g.Dirty())
	}
	for k, c := range []struct {
		keep string
		torn int
		want string
	}{
		{"", -1, after},
		{"1", -1, "d" + after[1:]},
		{"01", -1, after + rep("c", 64)},
		{"001", -1, after + zeros(64) + "c"},
		{"001", 1, after + rep("c", 32) + zeros(32) + "c"},
	} {
		h := g.Crash(0, flags(c.keep), c.torn)
		if got := contents(h); got != "a:"+c.want+" " {
			t.Errorf("P5.3, %d: %q, want %q", k, got, c.want)
		}
		if got := contents(h.Crash(0, flags("111"), 0)); got != "a:"+c.want+" " {
			t.Errorf("P5.3, %d: a third crash: %q", k, got)
		}
	}
}

// A crash may leave more than the room, as it brings back what was removed.
func TestCrashLeavesMoreThanTheRoom(t *testing.T) {
	f := New(100)
	must(t, f.Create("a"))
	must(t, f.Write("a", 0, make([]byte, 100)))
	must(t, f.Sync("a"))
	must(t, f.SyncDir())
	must(t, f.Create("b"))
	must(t, f.Remove("a"))
	must(t, f.Write("b", 0, make([]byte, 90)))
	g := f.Crash(1, flags("11"), -1)
	if g.Used() != 190 || g.Write("b", 0, make([]byte, 90)) != api.OK || g.Write("b", 90, []byte("x")) != api.ErrFull {
		t.Errorf("P5.3: %d used", g.Used())
	}
	must(t, g.Remove("a"))
	if g.Write("b", 90, make([]byte, 11)) != api.ErrFull || g.Write("b", 90, make([]byte, 10)) != api.OK {
		t.Errorf("P5.3: the room is another: %d used", g.Used())
	}
}

func TestCrashOfAFullDisk(t *testing.T) {
	f := New(api.MaxDisk)
	for i := range api.MaxFiles {
		name := "f" + strconv.Itoa(i)
		must(t, f.Create(name))
		must(t, f.Write(name, 0, []byte(rep("x", api.MaxDisk/api.MaxFiles))))
	}
	keep := make([]bool, f.Dirty())
	for i := range keep {
		keep[i] = true
	}
	if g := f.Crash(api.MaxFiles, keep, -1); contents(g) != contents(f) || g.Used() != f.Used() {
		t.Errorf("P5.3: all is kept: %d used, want %d", g.Used(), f.Used())
	}
	g := f.Crash(api.MaxFiles, nil, -1)
	if len(g.Names()) != api.MaxFiles || g.Used() != 0 || g.Create("more") != api.ErrFull {
		t.Errorf("P5.3: nothing is kept: %d used", g.Used())
	}
}
