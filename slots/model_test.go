package slots

import (
	"bytes"
	"encoding/binary"
	"hash/crc32"
	"math/rand"
	"slices"
	"strconv"
	"testing"

	"stillroom/api"
	"stillroom/disk"
)

// The name of the files that the tests look at, and what a slot has ahead of
// its text.
const (
	name = "a"
	head = 16
)

// textOf is n bytes, the same ones for the same seed.
func textOf(seed int64, n int) string {
	b := make([]byte, n)
	rand.New(rand.NewSource(seed)).Read(b)
	return string(b)
}

// must fails the test if a call that prepares it does not do what it should.
func must(t *testing.T, err api.Errno) {
	t.Helper()
	if err != api.OK {
		t.Fatalf("a call of the test's own: error %d", err)
	}
}

// sum is CRC-32C, by another program.
func sum(b []byte) uint32 {
	return crc32.Checksum(b, crc32.MakeTable(crc32.Castagnoli))
}

// slotOf is what a slot begins with that has that text.
func slotOf(turn uint64, text string) []byte {
	b := binary.BigEndian.AppendUint64(nil, turn)
	b = binary.BigEndian.AppendUint32(b, uint32(len(text)))
	b = binary.BigEndian.AppendUint32(b, sum(append(bytes.Clone(b), text...)))
	return append(b, text...)
}

// fileWith is the bytes of a file with two slots that begin so.
func fileWith(first, second []byte) []byte {
	b := make([]byte, 2*4096)
	copy(b[:4096], first)
	copy(b[4096:], second)
	return b
}

// standing is a text and its turn.
type standing struct {
	turn uint64
	text string
}

// slotIn is what a slot holds whose bytes these are, by writing anew what it
// seems to hold; false, if it is not whole.
func slotIn(b []byte) (standing, bool) {
	length := binary.BigEndian.Uint32(b[8:])
	if length > 4096-head {
		return standing{}, false
	}
	x := standing{binary.BigEndian.Uint64(b), string(b[head : head+length])}
	return x, bytes.HasPrefix(b, slotOf(x.turn, x.text))
}

// latestIn is what Open is to tell of a file that holds b, and in which slot
// that stands; -1: in none.
func latestIn(b []byte) (latest standing, slot int) {
	slot = -1
	for k := range 2 {
		x, whole := slotIn(b[k*4096 : (k+1)*4096])
		if whole && (slot < 0 || x.turn > latest.turn) {
			latest, slot = x, k
		}
	}
	return latest, slot
}

// fileOf is all bytes of a file.
func fileOf(f *disk.FS, name string) []byte {
	b, _ := f.Read(name, 0, f.Size(name))
	return b
}

// short is the beginning of a text, for a message.
func short(text string) string {
	return strconv.Itoa(len(text)) + " bytes " + strconv.Quote(text[:min(len(text), 20)])
}

// created is a new file with that text, on a disk of its own.
func created(t *testing.T, text string) (*disk.FS, *File) {
	t.Helper()
	f := disk.New(api.MaxDisk)
	s, err := Create(f, name, []byte(text))
	must(t, err)
	return f, s
}

// lay makes a file that holds b, and syncs it.
func lay(t *testing.T, f *disk.FS, name string, b []byte) {
	t.Helper()
	must(t, f.Create(name))
	must(t, f.Write(name, 0, b))
	must(t, f.Sync(name))
	must(t, f.SyncDir())
}

// laidDisk is a disk with a file that holds b.
func laidDisk(t *testing.T, b []byte) *disk.FS {
	t.Helper()
	f := disk.New(api.MaxDisk)
	lay(t, f, name, b)
	return f
}

// tells looks at all that a file tells.
func tells(t *testing.T, what string, s *File, want standing) {
	t.Helper()
	if s == nil {
		t.Fatalf("P9.1: %s: no file", what)
	}
	if got := string(s.Text()); got != want.text || s.Turn() != want.turn {
		t.Fatalf("P9.1: %s: turn %d, %s, want turn %d, %s", what, s.Turn(), short(got), want.turn, short(want.text))
	}
}

// opens opens a file, which is to tell that, and changes nothing by it.
func opens(t *testing.T, what string, f *disk.FS, want standing) *File {
	t.Helper()
	calls := f.Calls()
	s, err := Open(f, name)
	if err != api.OK || s == nil {
		t.Fatalf("P9.1: %s: Open: error %d", what, err)
	}
	if f.Calls() != calls {
		t.Fatalf("P9.1: %s: Open by %d changing calls", what, f.Calls()-calls)
	}
	tells(t, what+", opened", s, want)
	return s
}

// opensNone opens a file, which is to be told that error.
func opensNone(t *testing.T, what string, f *disk.FS, name string, want api.Errno) {
	t.Helper()
	if s, err := Open(f, name); s != nil || err != want {
		t.Fatalf("P9.1: %s: Open: error %d, want %d", what, err, want)
	}
}

// saves saves a text, which is to go into that slot with that turn, and to last.
func saves(t *testing.T, what string, f *disk.FS, s *File, slot int, x standing) {
	t.Helper()
	before := fileOf(f, name)
	if err := s.Save([]byte(x.text)); err != api.OK {
		t.Fatalf("P9.1: %s: Save of %s: error %d", what, short(x.text), err)
	}
	tells(t, what+", saved", s, x)
	after := fileOf(f, name)
	if len(after) != 8192 {
		t.Fatalf("P9.1: %s: the file has %d bytes behind Save", what, len(after))
	}
	if !bytes.HasPrefix(after[slot*4096:], slotOf(x.turn, x.text)) {
		t.Fatalf("P9.1: %s: slot %d begins with %x behind Save, want %x", what, slot, after[slot*4096:][:40], slotOf(x.turn, x.text)[:head])
	}
	other := (1 - slot) * 4096
	if !bytes.Equal(after[other:other+4096], before[other:other+4096]) {
		t.Fatalf("P9.1: %s: Save changes the slot of the text that was saved ahead of it", what)
	}
	opens(t, what+", saved", f, x)
	opens(t, what+", saved, behind a crash", f.Crash(0, nil, -1), x)
}

// refuses saves a text, which is to be told that error, and leaves what the
// file tells.
func refuses(t *testing.T, what string, s *File, text string, want api.Errno) {
	t.Helper()
	before := standing{s.Turn(), string(s.Text())}
	if err := s.Save([]byte(text)); err != want {
		t.Fatalf("P9.1: %s: Save of %s: error %d, want %d", what, short(text), err, want)
	}
	tells(t, what+", refused", s, before)
}

// keeps are ways in which n dirty sectors come through a crash: all ways, if
// they are few; else up to each one, from each one on, each one alone, all but
// each one, and some of them.
func keeps(n int) [][]bool {
	var l [][]bool
	if n <= 6 {
		for bits := range 1 << n {
			l = append(l, flags(n, func(i int) bool { return bits>>i&1 == 1 }))
		}
		return l
	}
	random := rand.New(rand.NewSource(int64(n)))
	for k := range n + 1 {
		l = append(l,
			flags(n, func(i int) bool { return i < k }),
			flags(n, func(i int) bool { return i >= k }),
			flags(n, func(i int) bool { return i == k }),
			flags(n, func(i int) bool { return i != k }),
			flags(n, func(i int) bool { return random.Intn(n+1) < k }))
	}
	return l
}

// flags is n bools.
func flags(n int, is func(i int) bool) []bool {
	keep := make([]bool, n)
	for i := range keep {
		keep[i] = is(i)
	}
	return keep
}

// everyCrash calls see with disks that a crash can leave of f, with so many of
// the directory's changes.
func everyCrash(f *disk.FS, changes int, see func(what string, g *disk.FS)) {
	n := f.Dirty()
	for k, keep := range keeps(n) {
		for _, torn := range slices.Compact([]int{-1, 0, min(1, n), n / 2, n - 1}) {
			what := strconv.Itoa(changes) + " changes, keep " + strconv.Itoa(k) + " of " + strconv.Itoa(n) + " sectors, torn " + strconv.Itoa(torn)
			see(what, f.Crash(changes, keep, torn))
		}
	}
}
