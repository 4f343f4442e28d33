package disk

import (
	"bytes"
	"math"
	"slices"
	"strconv"
	"strings"
	"testing"

	"stillroom/api"
)

// contents is all that a disk holds, told without any call that it counts.
func contents(f *FS) string {
	s := ""
	for _, name := range f.now.names() {
		s += name + ":" + string(f.now[name].now) + " "
	}
	return s
}

// must fails the test if a call that prepares it does not do what it should.
func must(t *testing.T, err api.Errno) {
	t.Helper()
	if err != api.OK {
		t.Fatalf("a call of the test's own: error %d", err)
	}
}

// diskWith is a disk with as much room as there can be, and a synced file "a"
// of that text in a synced directory.
func diskWith(t *testing.T, text string) *FS {
	t.Helper()
	f := New(api.MaxDisk)
	must(t, f.Create("a"))
	must(t, f.Write("a", 0, []byte(text)))
	must(t, f.Sync("a"))
	must(t, f.SyncDir())
	return f
}

func TestRoomOfADisk(t *testing.T) {
	cases := []struct{ room, want int }{
		{math.MinInt, 0}, {-1, 0}, {0, 0}, {1, 1}, {63, 63}, {100, 100},
		{api.MaxDisk - 1, api.MaxDisk - 1}, {api.MaxDisk, api.MaxDisk}, {api.MaxDisk + 1, api.MaxDisk}, {math.MaxInt, api.MaxDisk},
	}
	for _, c := range cases {
		later := New(7)
		later.Room(c.room)
		for k, f := range []*FS{New(c.room), later} {
			must(t, f.Create("a"))
			if got := f.Write("a", 0, make([]byte, c.want+1)); got != api.ErrFull || f.Used() != 0 {
				t.Errorf("P5.1: room %d, way %d: one byte too many: error %d, %d bytes used", c.room, k, got, f.Used())
			}
			if got := f.Write("a", 0, make([]byte, c.want)); got != api.OK || f.Used() != c.want {
				t.Errorf("P5.1: room %d, way %d: all that there is: error %d, %d bytes used", c.room, k, got, f.Used())
			}
		}
	}
}

func TestRoomIsThatOfAllFiles(t *testing.T) {
	f := New(100)
	must(t, f.Create("a"))
	must(t, f.Create("b"))
	must(t, f.Write("a", 0, make([]byte, 60)))
	for _, c := range []struct{ at, n, used int }{{0, 41, 60}, {0, 40, 100}, {40, 1, 100}, {39, 2, 100}} {
		want := api.OK
		if c.at+c.n > 40 {
			want = api.ErrFull
		}
		if got := f.Write("b", c.at, make([]byte, c.n)); got != want || f.Used() != c.used {
			t.Errorf("P5.1: %d bytes at %d: error %d, %d used", c.n, c.at, got, f.Used())
		}
	}
	must(t, f.Remove("a"))
	if f.Used() != 40 || f.Write("b", 40, make([]byte, 60)) != api.OK || f.Used() != 100 {
		t.Errorf("P5.1: a file that is gone takes room: %d used", f.Used())
	}
}

// A room below what is used stops files from growing, and that alone.
func TestRoomBelowWhatIsUsed(t *testing.T) {
	f := New(100)
	must(t, f.Create("a"))
	must(t, f.Write("a", 0, []byte("abcdef")))
	f.Room(3)
	for k, c := range []struct {
		at   int
		b    string
		want api.Errno
	}{{0, "ABCDEF", api.OK}, {6, "", api.OK}, {5, "f", api.OK}, {6, "g", api.ErrFull}, {5, "fg", api.ErrFull}, {0, "ABCDEFG", api.ErrFull}} {
		if got := f.Write("a", c.at, []byte(c.b)); got != c.want {
			t.Errorf("P5.1, %d: error %d, want %d", k, got, c.want)
		}
	}
	if contents(f) != "a:ABCDEf " {
		t.Errorf("P5.1: %q", contents(f))
	}
	f.Room(7)
	if f.Write("a", 6, []byte("g")) != api.OK || f.Used() != 7 {
		t.Errorf("P5.1: with room again: %d used", f.Used())
	}
}

func TestNames(t *testing.T) {
	right := []string{"a", "z", "A", "Z", "0", "9", ".", "..", "seg.1.2", strings.Repeat("x", 32), strings.Repeat(".", 32)}
	wrong := []string{"", " ", "a ", " a", "a/b", "a-b", "a_b", "a\x00", "\x00", "é", "日", "a\xff", strings.Repeat("x", 33), strings.Repeat("x", 1<<16), strings.Repeat("é", 16)}
	for c := range 256 {
		name := string([]byte{byte(c)})
		switch {
		case 'a' <= c && c <= 'z', 'A' <= c && c <= 'Z', '0' <= c && c <= '9', c == '.':
			right = append(right, name, "q"+name, name+"q")
		default:
			wrong = append(wrong, name, "q"+name, name+"q")
		}
	}
	for _, name := range right {
		f := New(100)
		if f.Create(name) != api.OK || f.Size(name) != 0 || !slices.Equal(f.Names(), []string{name}) {
			t.Errorf("P5.1: no file is named %q", name)
		}
		if name != "a" && (f.Rename(name, "a") != api.OK || f.Rename("a", name) != api.OK || f.Size(name) != 0) {
			t.Errorf("P5.1: Rename to %q", name)
		}
	}
	for _, name := range wrong {
		f := New(100)
		if got := f.Create(name); got != api.ErrForm || len(f.Names()) != 0 {
			t.Errorf("P5.1: Create(%q): error %d", name, got)
		}
		must(t, f.Create("a"))
		if got := f.Rename("a", name); got != api.ErrForm || contents(f) != "a: " {
			t.Errorf("P5.1: Rename to %q: error %d", name, got)
		}
		_, read := f.Read(name, 0, 0)
		for k, got := range []api.Errno{f.Write(name, 0, nil), f.Sync(name), f.Rename(name, "b"), f.Remove(name), read} {
			if got != api.ErrNotFound {
				t.Errorf("P5.1, %d: of %q: error %d", k, name, got)
			}
		}
		if f.Size(name) != -1 {
			t.Errorf("P5.1: Size(%q): %d", name, f.Size(name))
		}
	}
}

func TestNamesRise(t *testing.T) {
	f := New(0)
	for _, name := range []string{"b", "a", "Z", ".", "10", "9", "aa", "B"} {
		must(t, f.Create(name))
	}
	want := []string{".", "10", "9", "B", "Z", "a", "aa", "b"}
	first, second := f.Names(), f.Names()
	if !slices.Equal(first, want) {
		t.Errorf("P5.1: Names: %q, want %q", first, want)
	}
	clear(first[:cap(first)])
	if third := f.Names(); !slices.Equal(second, want) || !slices.Equal(third, want) {
		t.Errorf("P0.3: Names that were written to change others: %q, %q", second, third)
	}
}

func TestCreateInPlaceOfAFile(t *testing.T) {
	f := diskWith(t, "text")
	must(t, f.Write("a", 4, []byte(" and more")))
	if f.Create("a") != api.OK || f.Size("a") != 0 || f.Used() != 0 || f.Dirty() != 0 || len(f.Names()) != 1 {
		t.Errorf("P5.1: %q, %d used, %d dirty", contents(f), f.Used(), f.Dirty())
	}
	if got := f.Write("a", 1, nil); got != api.ErrRange {
		t.Errorf("P5.1: a Write above the new file's size: error %d", got)
	}
}

func TestFilesUpToTheMost(t *testing.T) {
	f := New(api.MaxDisk)
	name := func(i int) string { return "f" + strconv.Itoa(i) }
	for i := range api.MaxFiles {
		if got := f.Create(name(i)); got != api.OK {
			t.Fatalf("P5.1: file %d: error %d", i, got)
		}
	}
	if got := f.Create("more"); got != api.ErrFull || f.Size("more") != -1 || len(f.Names()) != api.MaxFiles {
		t.Errorf("P5.1: one more: error %d, %d files", got, len(f.Names()))
	}
	if got := f.Create("no name"); got != api.ErrForm {
		t.Errorf("P0.2: a wrong name on a full disk: error %d", got)
	}
	must(t, f.Write("f7", 0, []byte("7")))
	if got := f.Create("f7"); got != api.OK || f.Size("f7") != 0 || len(f.Names()) != api.MaxFiles {
		t.Errorf("P5.1: in place of one: error %d", got)
	}
	if got := f.Rename("f1", "other"); got != api.OK || f.Create("more") != api.ErrFull {
		t.Errorf("P5.1: one renamed: error %d", got)
	}
	if f.Rename("f2", "f3") != api.OK || f.Create("more") != api.OK || f.Create("again") != api.ErrFull {
		t.Errorf("P5.1: one renamed onto another: %d files", len(f.Names()))
	}
	if f.Remove("f4") != api.OK || f.Create("again") != api.OK || f.Create("at.last") != api.ErrFull {
		t.Errorf("P5.1: one removed: %d files", len(f.Names()))
	}
}

func TestWriteAtAllPlaces(t *testing.T) {
	const text = "0123456789"
	for at := -3; at <= len(text)+3; at++ {
		for n := range 15 {
			f := diskWith(t, text)
			b := bytes.Repeat([]byte("x"), n)
			want, after := api.OK, text
			switch {
			case at < 0 || at > len(text):
				want = api.ErrRange
			case at+n <= len(text):
				after = text[:at] + string(b) + text[at+n:]
			default:
				after = text[:at] + string(b)
			}
			if got := f.Write("a", at, b); got != want || contents(f) != "a:"+after+" " {
				t.Errorf("P5.1: %d bytes at %d: error %d, %q", n, at, got, contents(f))
			}
			if f.Size("a") != len(after) || f.Used() != len(after) {
				t.Errorf("P5.1: %d bytes at %d: size %d, %d used", n, at, f.Size("a"), f.Used())
			}
		}
	}
}

func TestWriteFarOutside(t *testing.T) {
	f := diskWith(t, "text")
	for _, at := range []int{math.MinInt, math.MinInt + 1, -1 << 40, -64, 64, 1 << 22, 1 << 40, math.MaxInt - 1, math.MaxInt} {
		if got := f.Write("a", at, []byte("xyz")); got != api.ErrRange || contents(f) != "a:text " {
			t.Errorf("P5.1: at %d: error %d, %q", at, got, contents(f))
		}
	}
	if f.Dirty() != 0 {
		t.Errorf("P5.3: %d sectors are dirty by writes that failed", f.Dirty())
	}
}

// Of the errors of a Write, the one named first counts.
func TestErrorsOfWriteInTheirOrder(t *testing.T) {
	f := New(4)
	must(t, f.Create("a"))
	big := make([]byte, 100)
	if got := f.Write("b", -1, big); got != api.ErrNotFound {
		t.Errorf("P0.2: no file, a wrong place, no room: error %d", got)
	}
	if got := f.Write("a", 1, big); got != api.ErrRange {
		t.Errorf("P0.2: a wrong place, no room: error %d", got)
	}
	if got := f.Rename("b", ""); got != api.ErrNotFound {
		t.Errorf("P0.2: no file, a wrong name: error %d", got)
	}
	f.Fail(0)
	if got := f.Write("b", -1, big); got != api.ErrIO {
		t.Errorf("P5.2: a failure, no file, a wrong place, no room: error %d", got)
	}
}

func TestReadAtAllPlaces(t *testing.T) {
	const text = "0123456789"
	f := diskWith(t, text)
	reads := 0
	ends := []int{math.MinInt, math.MinInt + 1, -1 << 40, 1 << 40, math.MaxInt - 9, math.MaxInt - 1, math.MaxInt}
	for i := -3; i <= len(text)+3; i++ {
		ends = append(ends, i)
	}
	for _, at := range ends {
		for _, n := range ends {
			b, err := f.Read("a", at, n)
			if at >= 0 && at <= len(text) && n >= 0 && n <= len(text)-at {
				reads += n
				if err != api.OK || string(b) != text[at:at+n] {
					t.Errorf("P5.1: Read of %d bytes at %d: %q, error %d", n, at, b, err)
				}
			} else if err != api.ErrRange || len(b) != 0 {
				t.Errorf("P5.1: Read of %d bytes at %d: %q, error %d", n, at, b, err)
			}
			if f.Reads() != reads {
				t.Fatalf("P5.2: Reads after %d bytes at %d: %d, want %d", n, at, f.Reads(), reads)
			}
			if b, err := f.Read("b", at, n); err != api.ErrNotFound || len(b) != 0 {
				t.Errorf("P5.1: Read of no file: %q, error %d", b, err)
			}
		}
	}
}

func TestReadAnswersNewMemory(t *testing.T) {
	f := diskWith(t, strings.Repeat("0123456789", 10))
	want := contents(f)
	for n := range 101 {
		first, _ := f.Read("a", 0, n)
		second, _ := f.Read("a", 0, n)
		clear(first[:cap(first)])
		if string(second) != want[2:2+n] || contents(f) != want {
			t.Errorf("P0.3: an answer of %d bytes that was written to changes others", n)
		}
	}
	if contents(f.Crash(0, nil, -1)) != want {
		t.Error("P0.3: an answer that was written to changes what is synced")
	}
}

// The bytes lie within a longer list, so that writing into their spare room
// would be seen; they are changed behind the Write, so that keeping them would.
func TestWriteLeavesItsBytes(t *testing.T) {
	for _, n := range []int{0, 1, 63, 64, 65, 200} {
		f := New(api.MaxDisk)
		must(t, f.Create("a"))
		room := bytes.Repeat([]byte("x"), 500)
		must(t, f.Write("a", 0, room[:n]))
		must(t, f.Sync("a"))
		must(t, f.Write("a", n, room[:n]))
		must(t, f.Write("a", n/2, room[n:2*n/3+n]))
		if string(room) != strings.Repeat("x", 500) {
			t.Errorf("P0.3: a Write of %d bytes changes what was handed in", n)
		}
		clear(room)
		if contents(f) != "a:"+strings.Repeat("x", max(2*n, n/2+2*n/3))+" " {
			t.Errorf("P0.3: a Write of %d bytes keeps what was handed in", n)
		}
	}
}

func TestNilAndEmptyAreTheSame(t *testing.T) {
	f, g := diskWith(t, "text"), diskWith(t, "text")
	for _, at := range []int{-1, 0, 2, 4, 5} {
		if x, y := f.Write("a", at, nil), g.Write("a", at, []byte{}); x != y || contents(f) != contents(g) || f.Dirty() != g.Dirty() {
			t.Errorf("P0.4: at %d: error %d, %d", at, x, y)
		}
	}
	must(t, f.Write("a", 0, []byte("TEXT")))
	if contents(f.Crash(0, nil, -1)) != contents(f.Crash(0, []bool{}, -1)) {
		t.Error("P0.4: a Crash that keeps nothing")
	}
}

func TestRename(t *testing.T) {
	f := New(100)
	for _, name := range []string{"a", "b", "c"} {
		must(t, f.Create(name))
		must(t, f.Write(name, 0, []byte("the "+name)))
	}
	for k, c := range []struct {
		from, to string
		want     api.Errno
		after    string
	}{
		{"a", "x", api.OK, "b:the b c:the c x:the a "},
		{"a", "y", api.ErrNotFound, "b:the b c:the c x:the a "},
		{"x", "b", api.OK, "b:the a c:the c "},
		{"b", "b", api.OK, "b:the a c:the c "},
		{"x", "x", api.ErrNotFound, "b:the a c:the c "},
		{"c", "", api.ErrForm, "b:the a c:the c "},
		{"", "c", api.ErrNotFound, "b:the a c:the c "},
		{"", "", api.ErrNotFound, "b:the a c:the c "},
		{"c", "b", api.OK, "b:the c "},
		{"b", "a", api.OK, "a:the c "},
	} {
		if got := f.Rename(c.from, c.to); got != c.want || contents(f) != c.after {
			t.Errorf("P5.1, %d: Rename %q to %q: error %d, %q", k, c.from, c.to, got, contents(f))
		}
	}
	if f.Used() != 5 {
		t.Errorf("P5.1: %d used", f.Used())
	}
}

func TestRemove(t *testing.T) {
	f := diskWith(t, "text")
	if f.Remove("b") != api.ErrNotFound || f.Remove("") != api.ErrNotFound || contents(f) != "a:text " {
		t.Errorf("P5.1: Remove of no file: %q", contents(f))
	}
	if f.Remove("a") != api.OK || f.Size("a") != -1 || f.Used() != 0 || len(f.Names()) != 0 || f.Remove("a") != api.ErrNotFound {
		t.Errorf("P5.1: Remove: %q", contents(f))
	}
}

func TestSyncOfNoFile(t *testing.T) {
	f := diskWith(t, "text")
	if f.Sync("b") != api.ErrNotFound || f.Sync("") != api.ErrNotFound || f.Sync("a") != api.OK {
		t.Error("P5.1: Sync")
	}
}

// changing is one of each changing call, made where all of them succeed.
func changing(f *FS) []func() api.Errno {
	return []func() api.Errno{
		func() api.Errno { return f.Create("new") },
		func() api.Errno { return f.Write("a", 2, []byte("XYZ")) },
		func() api.Errno { return f.Sync("dirty") },
		func() api.Errno { return f.SyncDir() },
		func() api.Errno { return f.Rename("a", "z") },
		func() api.Errno { return f.Remove("a") },
	}
}

// wrong is one of each changing call that has an error of its own, but for
// SyncDir, which has none.
func wrong(f *FS) []func() api.Errno {
	return []func() api.Errno{
		func() api.Errno { return f.Create("") },
		func() api.Errno { return f.Write("no", -1, nil) },
		func() api.Errno { return f.Sync("no") },
		func() api.Errno { return f.Rename("no", "") },
		func() api.Errno { return f.Remove("no") },
	}
}

// fixture is a disk on which each changing call would change something.
func fixture(t *testing.T) *FS {
	f := diskWith(t, "text")
	must(t, f.Create("dirty"))
	must(t, f.Write("dirty", 0, []byte("dirty")))
	return f
}

// state is all that can be seen of a disk, but for the counts of calls.
func state(f *FS) string {
	s := contents(f) + strconv.Itoa(f.Dirty())
	for n := range len(f.waiting) + 2 {
		s += "/" + contents(f.Crash(n, nil, -1))
	}
	return s
}

func TestFailureOfEachCall(t *testing.T) {
	for k := range changing(nil) {
		f := fixture(t)
		before, calls := state(f), f.Calls()
		f.Fail(0)
		if got := changing(f)[k](); got != api.ErrIO {
			t.Errorf("P5.2: call %d fails: error %d", k, got)
		}
		if state(f) != before || f.Calls() != calls+1 {
			t.Errorf("P5.2: call %d, which failed, did something, or isn't counted", k)
		}
		if got := changing(f)[k](); got != api.OK || state(f) == before || f.Calls() != calls+2 {
			t.Errorf("P5.2: call %d behind the failure: error %d", k, got)
		}
	}
	for k := range wrong(nil) {
		f := fixture(t)
		before, calls := state(f), f.Calls()
		if got := wrong(f)[k](); got == api.OK || got == api.ErrIO || state(f) != before || f.Calls() != calls+1 {
			t.Errorf("P5.1: wrong call %d: error %d, or it did something", k, got)
		}
		f.Fail(0)
		if got := wrong(f)[k](); got != api.ErrIO || state(f) != before || f.Calls() != calls+2 {
			t.Errorf("P5.2: wrong call %d fails: error %d", k, got)
		}
	}
}

func TestTheCallThatFails(t *testing.T) {
	for n := -2; n < 12; n++ {
		f := fixture(t)
		f.Fail(n)
		calls := append(wrong(f), wrong(f)...)
		for k, call := range calls {
			if got := call(); (got == api.ErrIO) != (k == n) {
				t.Errorf("P5.2: Fail(%d), call %d: error %d", n, k, got)
			}
		}
	}
}

func TestFailIsTakenBack(t *testing.T) {
	f := diskWith(t, "text")
	for k, c := range []struct{ first, then, fails int }{
		{0, -1, -1}, {0, math.MinInt, -1}, {0, 1, 1}, {5, 0, 0}, {2, 2, 2}, {0, math.MaxInt, -1}, {math.MaxInt, 0, 0}, {math.MinInt, 3, 3},
	} {
		f.Fail(c.first)
		f.Fail(c.then)
		for i := range 8 {
			if got := f.SyncDir(); (got == api.ErrIO) != (i == c.fails) {
				t.Errorf("P5.2, %d: call %d: error %d", k, i, got)
			}
		}
	}
}

// What changes nothing on the disk is not counted, and doesn't fail.
func TestOtherCallsAreNoChangingOnes(t *testing.T) {
	f := fixture(t)
	calls := f.Calls()
	f.Fail(0)
	for range 3 {
		if _, err := f.Read("a", 0, 4); err != api.OK {
			t.Errorf("P5.2: Read: error %d", err)
		}
		f.Size("a")
		f.Names()
		f.Used()
		f.Reads()
		f.Room(1000)
		f.Dirty()
		f.Crash(1, nil, 0)
	}
	if f.Calls() != calls || f.Reads() != 12 {
		t.Errorf("P5.2: %d calls more, %d bytes read", f.Calls()-calls, f.Reads())
	}
	if got := f.SyncDir(); got != api.ErrIO {
		t.Errorf("P5.2: the failure was used up: error %d", got)
	}
}

func TestNilDisk(t *testing.T) {
	var f *FS
	f.Fail(0)
	f.Room(100)
	_, read := f.Read("a", 0, 0)
	for k, got := range []api.Errno{f.Create("a"), f.Create(""), f.Write("a", 0, nil), f.Write("a", -1, nil), f.Sync("a"), f.SyncDir(), f.Rename("a", "b"), f.Rename("a", ""), f.Remove("a"), read} {
		if got != api.ErrNotFound {
			t.Errorf("P5.3, %d: of a nil disk: error %d", k, got)
		}
	}
	if b, _ := f.Read("a", 0, 5); len(b) != 0 {
		t.Errorf("P5.3: Read of a nil disk: %q", b)
	}
	if f.Size("a") != -1 || f.Size("") != -1 || len(f.Names()) != 0 || f.Used() != 0 || f.Calls() != 0 || f.Reads() != 0 || f.Dirty() != 0 {
		t.Error("P5.3: a nil disk holds something")
	}
	if f.Crash(0, nil, 0) != nil || f.Crash(-1, []bool{true}, -1) != nil {
		t.Error("P5.3: a nil disk has a Crash")
	}
}

// A disk that New did not make is one without room.
func TestZeroDisk(t *testing.T) {
	f := new(FS)
	if got := f.SyncDir(); got != api.OK {
		t.Errorf("P0.1: SyncDir: error %d", got)
	}
	if g := new(FS).Crash(1, nil, 0); contents(g) != "" || g.Create("a") != api.OK {
		t.Error("P0.1: Crash")
	}
	if f.Create("a") != api.OK || f.Write("a", 0, nil) != api.OK || f.Write("a", 0, []byte("x")) != api.ErrFull || f.Rename("a", "b") != api.OK {
		t.Error("P0.1: a zero disk")
	}
	f.Room(3)
	if f.Write("b", 0, []byte("x")) != api.OK || f.SyncDir() != api.OK || contents(f.Crash(0, []bool{true}, -1)) != "b:x " {
		t.Error("P0.1: a zero disk with room")
	}
}
