package slots

import (
	"bytes"
	"math"
	"math/rand"
	"slices"
	"strconv"
	"strings"
	"testing"

	"stillroom/api"
	"stillroom/disk"
)

// texts are of all lengths that the chapter names, and of some others.
func texts() []string {
	return []string{
		"", "one", "a", "\x00", strings.Repeat("\x00", 100), strings.Repeat("\xff", 4080), "NEW",
		textOf(1, 15), textOf(2, 16), textOf(3, 17), textOf(4, 48), textOf(5, 49), textOf(6, 1000),
		textOf(7, 4079), textOf(8, 4080), "", textOf(9, 4064), "two", "two",
		string(slotOf(9, "a slot in a slot")), string(fileWith(slotOf(7, "x"), nil)[:4080]),
	}
}

func TestCreate(t *testing.T) {
	for k, text := range texts() {
		what := "text " + strconv.Itoa(k)
		f := disk.New(8192)
		s, err := Create(f, name, []byte(text))
		if err != api.OK {
			t.Fatalf("P9.1: %s: Create: error %d", what, err)
		}
		x := standing{1, text}
		tells(t, what, s, x)
		if !slices.Equal(f.Names(), []string{name}) || f.Used() != 8192 || f.Dirty() != 0 {
			t.Errorf("P9.1: %s: files %q, %d bytes, %d dirty sectors", what, f.Names(), f.Used(), f.Dirty())
		}
		if b := fileOf(f, name); !bytes.HasPrefix(b, slotOf(1, text)) {
			t.Errorf("P9.1: %s: the first slot begins with %x", what, b[:40])
		} else if _, whole := slotIn(b[4096:]); whole {
			t.Errorf("P9.1: %s: the second slot is whole", what)
		}
		opens(t, what, f, x)
		g := f.Crash(0, nil, -1)
		if !slices.Equal(g.Names(), []string{name}) || g.Size(name) != 8192 {
			t.Errorf("P9.1: %s: a crash leaves %q, %d bytes", what, g.Names(), g.Used())
		}
		opens(t, what+", behind a crash", g, x)
		saves(t, what, f, s, 1, standing{2, "next"})
	}
}

func TestCreateWithOtherNames(t *testing.T) {
	f := disk.New(api.MaxDisk)
	names := []string{"MAN", "NEW", "new", ".", "0", strings.Repeat("x", 32), "a", "b"}
	for _, name := range names {
		s, err := Create(f, name, []byte("text of "+name))
		if err != api.OK || string(s.Text()) != "text of "+name {
			t.Fatalf("P9.1: Create(%q): error %d", name, err)
		}
	}
	for _, name := range names {
		// The one that is named as all are laid went when the next one was.
		if name == "NEW" {
			opensNone(t, "a file that was laid over", f, name, api.ErrNotFound)
			continue
		}
		s, err := Open(f.Crash(0, nil, -1), name)
		if err != api.OK || string(s.Text()) != "text of "+name || s.Turn() != 1 {
			t.Errorf("P9.1: Open(%q): error %d", name, err)
		}
	}
}

// What stands where the file is laid goes, whatever it is.
func TestCreateWhereNEWIs(t *testing.T) {
	for k, b := range [][]byte{nil, []byte("bytes"), []byte(textOf(1, 10000)), fileWith(slotOf(1, "old"), slotOf(2, "older"))} {
		f := laidDisk(t, nil)
		must(t, f.Remove(name))
		lay(t, f, "NEW", b)
		s, err := Create(f, name, []byte("text"))
		if err != api.OK || !slices.Equal(f.Names(), []string{name}) || f.Size(name) != 8192 {
			t.Fatalf("P9.1: NEW is there, %d: error %d, %q", k, err, f.Names())
		}
		saves(t, "NEW was there", f, s, 1, standing{2, "next"})
		refuses(t, "NEW was there", s, textOf(1, 4081), api.ErrTooLarge)
	}
}

// refusedCreate is a Create that is to be told that error, and to ask the disk
// for no change.
func refusedCreate(t *testing.T, f *disk.FS, name string, n int, want api.Errno) {
	t.Helper()
	calls, names := f.Calls(), f.Names()
	before := fileOf(f, name)
	if s, err := Create(f, name, make([]byte, n)); s != nil || err != want {
		t.Errorf("P9.1: Create(%q) of %d bytes: error %d, want %d", name, n, err, want)
	}
	if f.Calls() != calls || !slices.Equal(f.Names(), names) || !bytes.Equal(fileOf(f, name), before) {
		t.Errorf("P9.1: Create(%q) of %d bytes, which is refused, changes the disk: %q", name, n, f.Names())
	}
}

func TestCreateRefused(t *testing.T) {
	f, s := created(t, "first")
	lay(t, f, "b", nil)
	lay(t, f, "c", []byte("no slots"))
	for _, n := range []int{0, 1, 4080} {
		for _, name := range []string{name, "b", "c"} {
			refusedCreate(t, f, name, n, api.ErrExists)
		}
	}
	for _, n := range []int{4081, 4082, 4096, 8192, 1 << 20} {
		for _, name := range []string{name, "b", "d", "no name", ""} {
			refusedCreate(t, f, name, n, api.ErrTooLarge)
		}
		refusedCreate(t, nil, name, n, api.ErrTooLarge)
	}

	// These are told ahead of what the disk would tell.
	f.Fail(0)
	refusedCreate(t, f, name, 0, api.ErrExists)
	refusedCreate(t, f, "d", 4081, api.ErrTooLarge)
	if err := f.SyncDir(); err != api.ErrIO {
		t.Errorf("P9.1: a refused Create asks the disk: error %d", err)
	}
	f.Room(0)
	refusedCreate(t, f, name, 0, api.ErrExists)
	refusedCreate(t, f, "d", 4081, api.ErrTooLarge)
	refusedCreate(t, nil, name, 0, api.ErrNotFound)
	opens(t, "a file that was created again", f, standing{1, "first"})
	saves(t, "a file that was created again", f, s, 1, standing{2, "second"})
}

func TestCreateWithNamesThatAreNone(t *testing.T) {
	for _, name := range []string{"", "a b", "a/b", "a-b", strings.Repeat("x", 33), "\x00", "é", strings.Repeat("x", 1<<20)} {
		f := disk.New(api.MaxDisk)
		if s, err := Create(f, name, []byte("text")); s != nil || err != api.ErrForm {
			t.Errorf("P9.1: Create(%q): error %d", name[:min(len(name), 40)], err)
		}
		opensNone(t, "no name", f, name, api.ErrNotFound)
	}
}

func TestCreateWithoutRoom(t *testing.T) {
	for _, room := range []int{-1, 0, 19, 4096, 8191} {
		f := disk.New(room)
		if s, err := Create(f, name, nil); s != nil || err != api.ErrFull {
			t.Errorf("P9.1: Create with room for %d bytes: error %d", room, err)
		}
		opensNone(t, "no room", f, name, api.ErrNotFound)
		f.Room(8192)
		s, err := Create(f, name, []byte("text"))
		if err != api.OK || f.Used() != 8192 {
			t.Fatalf("P9.1: Create, now with room: error %d, %d bytes", err, f.Used())
		}
		// A Save needs none.
		f.Room(0)
		saves(t, "no room any more", f, s, 1, standing{2, textOf(1, 4080)})
		saves(t, "no room any more", f, s, 0, standing{3, textOf(2, 4080)})
	}
	f := disk.New(api.MaxDisk)
	for k := range api.MaxFiles {
		must(t, f.Create("x"+strconv.Itoa(k)))
	}
	if s, err := Create(f, name, nil); s != nil || err != api.ErrFull || len(f.Names()) != api.MaxFiles {
		t.Errorf("P9.1: Create beside %d files: error %d", api.MaxFiles, err)
	}
}

func TestOpenNotFound(t *testing.T) {
	f, _ := created(t, "text")
	for _, name := range []string{"b", "A", "aa", "", "NEW", "no name", strings.Repeat("a", 33)} {
		opensNone(t, "a name that is no file's", f, name, api.ErrNotFound)
	}
	opensNone(t, "a disk without files", disk.New(8192), name, api.ErrNotFound)
	opensNone(t, "no disk", nil, name, api.ErrNotFound)
	opens(t, "a file beside those", f, standing{1, "text"})
	if !slices.Equal(f.Names(), []string{name}) {
		t.Errorf("P9.1: Open makes files: %q", f.Names())
	}
	must(t, f.Remove(name))
	opensNone(t, "a file that is gone", f, name, api.ErrNotFound)
}

func TestOpen(t *testing.T) {
	a, b := slotOf(5, "five"), slotOf(6, textOf(1, 4080))
	five, six := standing{5, "five"}, standing{6, textOf(1, 4080)}
	top := uint64(1 << 40)
	for k, c := range []struct {
		first, second []byte
		want          standing
		next          int
	}{
		{a, nil, five, 1}, {nil, a, five, 0}, {a, b, six, 0}, {b, a, six, 1},
		{b, nil, six, 1}, {nil, b, six, 0},
		{a, []byte(textOf(2, 4096)), five, 1}, {[]byte(textOf(2, 4096)), a, five, 0},
		{slotOf(1, ""), slotOf(2, ""), standing{2, ""}, 0},
		{slotOf(256, "greater"), slotOf(255, "less"), standing{256, "greater"}, 1},
		{slotOf(1<<32, "greater"), slotOf(1<<32-1, "less"), standing{1 << 32, "greater"}, 1},
		{slotOf(top-2, "less"), slotOf(top-1, "greater"), standing{top - 1, "greater"}, 0},
		{slotOf(1, "less"), slotOf(100, "far greater"), standing{100, "far greater"}, 0},
	} {
		what := "slots " + strconv.Itoa(k)
		f := laidDisk(t, fileWith(c.first, c.second))
		s := opens(t, what, f, c.want)
		f.Fail(0)
		if again, err := Open(f, name); err != api.OK || again.Turn() != c.want.turn {
			t.Fatalf("P9.1: %s: Open asks the disk for a change: error %d", what, err)
		}
		f.Fail(-1)
		saves(t, what, f, s, c.next, standing{c.want.turn + 1, "next"})
		if c.want.turn+1 < top {
			saves(t, what, f, s, 1-c.next, standing{c.want.turn + 2, "the one behind"})
		}
	}
}

// What stands behind a slot's text does not matter.
func TestOpenWithBytesBehindTheTexts(t *testing.T) {
	rest := textOf(1, 4096)
	for _, text := range []string{"", "text", textOf(2, 4000)} {
		x := slotOf(3, text)
		f := laidDisk(t, fileWith(append(slotOf(2, "other"), rest...), append(x, rest...)))
		s := opens(t, "bytes behind a text", f, standing{3, text})
		saves(t, "bytes behind a text", f, s, 0, standing{4, "text"})
		saves(t, "bytes behind a text", f, s, 1, standing{5, ""})
	}
}

// wrongSlots are what no slot that is whole begins with.
func wrongSlots() [][]byte {
	good := slotOf(5, "five")
	l := [][]byte{nil, bytes.Repeat([]byte{0xff}, 4096), []byte(textOf(1, 4096)), []byte("five"), good[1:], append([]byte{0}, good...)}
	for at := range good {
		for bit := range 8 {
			x := bytes.Clone(good)
			x[at] ^= 1 << bit
			l = append(l, x)
		}
	}
	// Their sums are right, but of another length, or of too much, or of too
	// little.
	for _, c := range []struct{ length, summed int }{
		{4081, 4080}, {4096, 4080}, {1 << 31, 4080}, {math.MaxUint32, 4080}, {math.MaxUint32 - 15, 4080}, {10, 9}, {10, 11}, {10, 0}, {0, 10}, {10, 4080},
	} {
		x := append(slotOf(5, textOf(2, c.length&0xfff))[:8], byte(c.length>>24), byte(c.length>>16), byte(c.length>>8), byte(c.length))
		text := textOf(3, 4080)
		s := sum(append(bytes.Clone(x), text[:c.summed]...))
		l = append(l, append(append(x, byte(s>>24), byte(s>>16), byte(s>>8), byte(s)), text...))
	}
	// Of the text alone, without the turn and the length; and none.
	x := slotOf(5, "five")
	s := sum([]byte("five"))
	copy(x[12:], []byte{byte(s >> 24), byte(s >> 16), byte(s >> 8), byte(s)})
	y := slotOf(5, "five")
	clear(y[12:16])
	return append(l, x, y)
}

func TestOpenCorrupt(t *testing.T) {
	for k, x := range wrongSlots() {
		what := "wrong slot " + strconv.Itoa(k)
		opensNone(t, what, laidDisk(t, fileWith(x, nil)), name, api.ErrCorrupt)
		opensNone(t, what, laidDisk(t, fileWith(nil, x)), name, api.ErrCorrupt)
		opensNone(t, what, laidDisk(t, fileWith(x, x)), name, api.ErrCorrupt)
		f := laidDisk(t, fileWith(x, slotOf(2, "two")))
		s := opens(t, what, f, standing{2, "two"})
		saves(t, what, f, s, 0, standing{3, "three"})
		f = laidDisk(t, fileWith(slotOf(2, "two"), x))
		s = opens(t, what, f, standing{2, "two"})
		saves(t, what, f, s, 1, standing{3, "three"})
	}
}

// Files that are too short for a slot, and such as have a slot elsewhere.
func TestOpenFilesWithoutSlots(t *testing.T) {
	good := slotOf(5, "five")
	for k, b := range [][]byte{
		nil, {0}, make([]byte, 15), make([]byte, 16), make([]byte, 4096), make([]byte, 8191), make([]byte, 8192), make([]byte, 20000),
		good[:15], good[:16], good[:19], []byte(textOf(1, 4095)), []byte(textOf(1, 9000)),
		append(make([]byte, 2048), good...), append(make([]byte, 8192), good...), append(make([]byte, 4095), fileWith(good, nil)...),
	} {
		opensNone(t, "file "+strconv.Itoa(k), laidDisk(t, b), name, api.ErrCorrupt)
	}
}

// A file that has but one slot gets its other one by a Save.
func TestOpenAFileOfOneSlot(t *testing.T) {
	for _, size := range []int{4096, 4097, 6000, 8191} {
		f := laidDisk(t, fileWith(slotOf(5, "five"), nil)[:size])
		s := opens(t, "a file of one slot", f, standing{5, "five"})
		if err := s.Save([]byte("six")); err != api.OK {
			t.Fatalf("P9.1: Save to a file of %d bytes: error %d", size, err)
		}
		s = opens(t, "a file of one slot, saved", f.Crash(0, nil, -1), standing{6, "six"})
		if err := s.Save([]byte("seven")); err != api.OK || s.Turn() != 7 {
			t.Fatalf("P9.1: Save to a file of %d bytes, again: error %d", size, err)
		}
	}
}

func TestSave(t *testing.T) {
	f, s := created(t, "first")
	for k, text := range texts() {
		turn := uint64(k) + 2
		calls := f.Calls()
		saves(t, "text "+strconv.Itoa(k), f, s, int(turn-1)%2, standing{turn, text})
		if f.Calls() == calls || f.Dirty() != 0 || len(f.Names()) != 1 {
			t.Errorf("P9.1: text %d: %d changing calls, %d dirty sectors, %q", k, f.Calls()-calls, f.Dirty(), f.Names())
		}
	}
}

func TestSaveToOneThatWasOpened(t *testing.T) {
	f, _ := created(t, "first")
	last := standing{1, "first"}
	for k, text := range texts() {
		what := "opened, text " + strconv.Itoa(k)
		s := opens(t, what, f, last)
		last = standing{last.turn + 1, text}
		saves(t, what, f, s, int(last.turn-1)%2, last)
		if k%3 == 0 {
			f = f.Crash(0, nil, -1)
		}
	}
}

func TestSaveTooLarge(t *testing.T) {
	f, s := created(t, "first")
	for k, n := range []int{4081, 4082, 4096, 4097, 8192, 1 << 20} {
		before, calls := fileOf(f, name), f.Calls()
		refuses(t, "a text that is too large", s, textOf(1, n), api.ErrTooLarge)
		f.Fail(0)
		refuses(t, "a text that is too large, the disk fails", s, textOf(1, n), api.ErrTooLarge)
		f.Fail(-1)
		if f.Calls() != calls || !bytes.Equal(fileOf(f, name), before) {
			t.Errorf("P9.1: a text that is too large changes the disk: %d calls", f.Calls()-calls)
		}
		// It has taken no turn.
		saves(t, "behind a text that is too large", f, s, 1-k%2, standing{uint64(k) + 2, textOf(2, 4080-k)})
	}
}

// Each byte of the latest slot that is changed brings back the text ahead of it;
// one of both slots leaves none.
func TestOneByteChangedInEachPlace(t *testing.T) {
	f, s := created(t, "first")
	saves(t, "a file", f, s, 1, standing{2, "second one"})
	for turn, length := uint64(2), len("second one"); turn < 6; turn++ {
		b := fileOf(f, name)
		latest, slot := latestIn(b)
		former, _ := slotIn(b[(1-slot)*4096:][:4096])
		if latest.turn != turn || former.turn != turn-1 {
			t.Fatalf("P9.1: the slots have turns %d and %d, want %d", latest.turn, former.turn, turn)
		}
		for at := range head + length {
			spoilt := bytes.Clone(b)
			spoilt[slot*4096+at] ^= 0x10
			g := laidDisk(t, spoilt)
			x := opens(t, "a changed byte", g, former)
			if at%7 == 0 {
				saves(t, "a changed byte", g, x, slot, standing{former.turn + 1, "anew"})
			}
			spoilt[(1-slot)*4096+at%(head+len(former.text))] ^= 0x80
			opensNone(t, "two changed bytes", laidDisk(t, spoilt), name, api.ErrCorrupt)
		}
		length = 10 * int(turn)
		saves(t, "a file", f, s, 1-slot, standing{turn + 1, textOf(int64(turn), length)})
	}
}

// The last turn is 2^40.
func TestTurnsUpTo2To40(t *testing.T) {
	const top = 1 << 40
	for slot := range 2 {
		before := [2][]byte{}
		before[slot] = slotOf(top-2, "before")
		f := laidDisk(t, fileWith(before[0], before[1]))
		s := opens(t, "turn 2^40 - 2", f, standing{top - 2, "before"})
		saves(t, "turn 2^40 - 1", f, s, 1-slot, standing{top - 1, "last but one"})
		s = opens(t, "turn 2^40 - 1", f, standing{top - 1, "last but one"})
		saves(t, "turn 2^40", f, s, slot, standing{top, "last"})
		for range 3 {
			calls, b := f.Calls(), fileOf(f, name)
			for _, x := range []*File{s, opens(t, "turn 2^40", f, standing{top, "last"})} {
				refuses(t, "turn 2^40", x, "more", api.ErrRange)
				refuses(t, "turn 2^40", x, "", api.ErrRange)
				refuses(t, "turn 2^40", x, textOf(1, 4081), api.ErrTooLarge)
				f.Fail(0)
				refuses(t, "turn 2^40, the disk fails", x, "more", api.ErrRange)
				f.Fail(-1)
			}
			if f.Calls() != calls || !bytes.Equal(fileOf(f, name), b) {
				t.Errorf("P9.1: a Save behind turn 2^40 changes the disk: %d calls", f.Calls()-calls)
			}
		}
	}
}

// Greater turns than Save gives are told, but not counted on.
func TestTurnsBeyond2To40(t *testing.T) {
	for _, turn := range []uint64{1<<40 + 1, 1 << 63, math.MaxUint64} {
		f := laidDisk(t, fileWith(slotOf(turn, "strange"), slotOf(3, "three")))
		s := opens(t, "a strange turn", f, standing{turn, "strange"})
		refuses(t, "a strange turn", s, "more", api.ErrRange)
	}
}

func TestNilFile(t *testing.T) {
	var s *File
	for _, text := range append(texts(), textOf(1, 4081), textOf(1, 1<<20)) {
		if err := s.Save([]byte(text)); err != api.ErrClosed {
			t.Errorf("P9.1: Save of %s to a nil file: error %d", short(text), err)
		}
	}
	if s.Save(nil) != api.ErrClosed || len(s.Text()) != 0 || s.Turn() != 0 {
		t.Errorf("P9.1: a nil file: Save %d, Text %q, Turn %d", s.Save(nil), s.Text(), s.Turn())
	}
}

// A file that neither Create nor Open made has no disk.
func TestZeroFile(t *testing.T) {
	s := &File{}
	if s.Save(nil) != api.ErrNotFound || s.Save(make([]byte, 4081)) != api.ErrTooLarge || len(s.Text()) != 0 || s.Turn() != 0 {
		t.Errorf("P0.1: Save %d, Text %q, Turn %d", s.Save(nil), s.Text(), s.Turn())
	}
}

// A nil list is the same as an empty one.
func TestNilAndEmptyTexts(t *testing.T) {
	for _, b := range [][]byte{nil, {}, make([]byte, 0, 5000)} {
		f := disk.New(api.MaxDisk)
		s, err := Create(f, name, b)
		must(t, err)
		opens(t, "an empty text", f, standing{1, ""})
		if err := s.Save(b); err != api.OK || len(s.Text()) != 0 {
			t.Errorf("P0.4: Save of an empty text: error %d, %q", err, s.Text())
		}
		opens(t, "an empty text, saved", f, standing{2, ""})
	}
}

func TestAnswersAreNewMemory(t *testing.T) {
	f, s := created(t, "first text")
	for _, x := range []*File{s, opens(t, "a file", f, standing{1, "first text"})} {
		a, b := x.Text(), x.Text()
		for i := range a[:cap(a)] {
			a[:cap(a)][i] = '?'
		}
		if string(b) != "first text" {
			t.Errorf("P0.3: writing into an answer changes another one: %q", b)
		}
		tells(t, "an answer that was written into", x, standing{1, "first text"})
	}
	opens(t, "an answer that was written into", f, standing{1, "first text"})
	held := s.Text()
	saves(t, "an answer that was written into", f, s, 1, standing{2, "second"})
	if string(held) != "first text" {
		t.Errorf("P0.3: Save changes a former answer: %q", held)
	}
}

func TestWhatIsHandedInIsNeitherChangedNorKept(t *testing.T) {
	all := []byte(textOf(1, 9000))
	f := disk.New(api.MaxDisk)
	s, err := Create(f, name, all[:100])
	must(t, err)
	must(t, s.Save(all[:200]))
	refuses(t, "a text that is too large", s, string(all), api.ErrTooLarge)
	if string(all) != textOf(1, 9000) {
		t.Error("P0.3: a call changes what was handed in, or its spare room")
	}
	clear(all)
	tells(t, "a text that was cleared", s, standing{2, textOf(1, 9000)[:200]})
	opens(t, "a text that was cleared", f, standing{2, textOf(1, 9000)[:200]})
}

// Files of one disk are each for itself.
func TestFilesOfOneDisk(t *testing.T) {
	f := disk.New(api.MaxDisk)
	files, last := map[string]*File{}, map[string]standing{}
	names := []string{"a", "b", "MAN", "x1"}
	for _, name := range names {
		s, err := Create(f, name, []byte(name))
		must(t, err)
		files[name], last[name] = s, standing{1, name}
	}
	random := rand.New(rand.NewSource(1))
	for range 200 {
		name := names[random.Intn(len(names))]
		x := standing{last[name].turn + 1, textOf(random.Int63(), random.Intn(4081))}
		must(t, files[name].Save([]byte(x.text)))
		last[name] = x
		for name, s := range files {
			tells(t, name, s, last[name])
		}
	}
	for _, name := range names {
		s, err := Open(f, name)
		must(t, err)
		tells(t, name+", opened", s, last[name])
	}
}

// What a file tells hangs on what it was told alone.
func TestWhatAFileTellsIsWhatItWasTold(t *testing.T) {
	f, s := created(t, "first")
	other := opens(t, "a file", f, standing{1, "first"})
	must(t, s.Save([]byte("second")))
	tells(t, "a file that is open twice", other, standing{1, "first"})
	must(t, f.Write(name, 0, make([]byte, 8192)))
	tells(t, "a file that was written over", s, standing{2, "second"})
	must(t, f.Remove(name))
	refuses(t, "a file that is gone", s, "third", api.ErrNotFound)
	if len(f.Names()) != 0 {
		t.Errorf("P9.1: Save makes files: %q", f.Names())
	}
}

func TestFilesAgainstAnotherReckoning(t *testing.T) {
	random := rand.New(rand.NewSource(2))
	wholes, others := 0, 0
	for range 2000 {
		b := fileWith(randomSlot(random), randomSlot(random))
		want, slot := latestIn(b)
		f := laidDisk(t, b)
		if slot < 0 {
			others++
			opensNone(t, "a random file", f, name, api.ErrCorrupt)
			continue
		}
		wholes++
		s := opens(t, "a random file", f, want)
		if want.turn < api.MaxNum {
			saves(t, "a random file", f, s, 1-slot, standing{want.turn + 1, textOf(random.Int63(), random.Intn(4081))})
		}
	}
	if wholes < 500 || others < 200 {
		t.Errorf("%d files are whole, %d are not", wholes, others)
	}
}

// randomSlot is a slot that is whole or not, and bytes behind it.
func randomSlot(random *rand.Rand) []byte {
	turn := uint64(random.Int63n(api.MaxNum+1)) >> random.Intn(41)
	x := slotOf(turn, textOf(random.Int63(), random.Intn(4081)>>random.Intn(13)))
	switch random.Intn(6) {
	case 0, 1:
		x[random.Intn(len(x))] ^= 1 << random.Intn(8)
	case 2:
		x = x[:random.Intn(len(x))]
	case 3:
		x = nil
	}
	return append(x, textOf(random.Int63(), random.Intn(4096))...)
}
