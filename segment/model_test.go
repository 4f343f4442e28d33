package segment

import (
	"bytes"
	"encoding/binary"
	"math/rand"
	"slices"
	"strconv"
	"strings"
	"testing"

	"stillroom/api"
	"stillroom/disk"
	"stillroom/record"
	"stillroom/scan"
)

// The tenant and the number of the segments that the tests look at, and the
// name of their file.
const (
	own   = 7
	other = 8
	num   = 3
	name  = "t7.3"
)

// textOf is n bytes, the same ones for the same seed.
func textOf(seed int64, n int) string {
	b := make([]byte, n)
	rand.New(rand.NewSource(seed)).Read(b)
	return string(b)
}

// part is a record of the segment's tenant.
func part(seq uint64, body string) api.Record {
	return api.Record{Kind: api.KPart, Tenant: own, Epoch: 2, Object: 5, Seq: seq, Body: body}
}

// strange is a record of another tenant.
func strange(seq uint64, body string) api.Record {
	r := part(seq, body)
	r.Tenant = other
	return r
}

// written is records as bytes, one behind the other.
func written(l ...api.Record) []byte {
	var b []byte
	for _, r := range l {
		b = append(b, record.Encode(r)...)
	}
	return b
}

// joined is texts one behind the other.
func joined(texts ...[]byte) []byte {
	return bytes.Join(texts, nil)
}

// must fails the test if a call that prepares it does not do what it should.
func must(t *testing.T, err api.Errno) {
	t.Helper()
	if err != api.OK {
		t.Fatalf("a call of the test's own: error %d", err)
	}
}

// created is a new segment on a disk of its own, with as much room as there can
// be.
func created(t *testing.T) (*disk.FS, *Seg) {
	t.Helper()
	f := disk.New(api.MaxDisk)
	s, err := Create(f, own, num)
	must(t, err)
	return f, s
}

// opened is a segment whose file holds b, synced, on a disk of its own.
func opened(t *testing.T, b []byte) (*disk.FS, *Seg) {
	t.Helper()
	f := disk.New(api.MaxDisk)
	must(t, f.Create(name))
	must(t, f.Write(name, 0, b))
	must(t, f.Sync(name))
	must(t, f.SyncDir())
	s, err := Open(f, own, num)
	must(t, err)
	return f, s
}

// fileOf is all bytes of the segment's file.
func fileOf(f *disk.FS) []byte {
	b, _ := f.Read(name, 0, f.Size(name))
	return b
}

// standing is the record at b's beginning, whoever's it is: it reads what a
// head there would tell, and writes that record anew.
func standing(b []byte) (api.Record, bool) {
	if len(b) < 39 {
		return api.Record{}, false
	}
	length := int(binary.BigEndian.Uint32(b[31:]))
	if length > len(b)-39 {
		return api.Record{}, false
	}
	r := api.Record{
		Kind:   int(b[2]),
		Tenant: binary.BigEndian.Uint32(b[3:]),
		Epoch:  binary.BigEndian.Uint64(b[7:]),
		Object: binary.BigEndian.Uint64(b[15:]),
		Seq:    binary.BigEndian.Uint64(b[23:]),
		Body:   string(b[39 : 39+length]),
	}
	return r, record.May(r) && bytes.HasPrefix(b, record.Encode(r))
}

// reckoned is what Records is to tell of a file that holds b, and whether
// nothing stands behind that.
func reckoned(b []byte) (l []scan.Found, whole bool) {
	at := 0
	for at < len(b) {
		r, ok := standing(b[at:])
		if !ok || r.Tenant != own {
			return l, false
		}
		l = append(l, scan.Found{At: at, R: r})
		at += 39 + len(r.Body)
	}
	return l, true
}

// told is the places and numbers of l.
func told(l []scan.Found) string {
	s := []string{strconv.Itoa(len(l)) + " records"}
	for _, x := range l[:min(len(l), 20)] {
		s = append(s, strconv.Itoa(x.At)+":"+strconv.FormatUint(x.R.Seq, 10))
	}
	return strings.Join(s, " ")
}

// holds looks at all that a segment tells without a change, whose file is to
// hold b: Size, Records, and Read of each place in it and around it.
func holds(t *testing.T, what string, f *disk.FS, s *Seg, b []byte) {
	t.Helper()
	if got := fileOf(f); !bytes.Equal(got, b) {
		t.Fatalf("P8.1: %s: the file has %d bytes %q, want %d: %q", what, len(got), got, len(b), b)
	}
	if got := s.Size(); got != len(b) {
		t.Fatalf("P8.1: %s: Size %d, want %d", what, got, len(b))
	}
	want, _ := reckoned(b)
	if got := s.Records(); !slices.Equal(got, want) {
		t.Fatalf("P8.1: %s: %s, want %s", what, told(got), told(want))
	}
	for at := -3; at < len(b)+3; at++ {
		readsRight(t, what, s, b, at)
	}
}

// readsRight looks at Read of a place, where the file holds b.
func readsRight(t *testing.T, what string, s *Seg, b []byte, at int) {
	t.Helper()
	var want api.Record
	wantErr := api.ErrRange
	if at >= 0 && at < len(b) {
		wantErr = api.ErrCorrupt
		if r, ok := standing(b[at:]); ok && r.Tenant == own {
			want, wantErr = r, api.OK
		}
	}
	if got, err := s.Read(at); got != want || err != wantErr {
		t.Fatalf("P8.1: %s: Read(%d) of %d bytes: %q, error %d, want %q, error %d", what, at, len(b), written(got), err, written(want), wantErr)
	}
}

// placesFrom is where records stand that are laid one behind the other from at
// on.
func placesFrom(at int, l []api.Record) []int {
	var places []int
	for _, r := range l {
		places = append(places, at)
		at += 39 + len(r.Body)
	}
	return places
}

// appends appends l, which is to be done by one changing call.
func appends(t *testing.T, what string, f *disk.FS, s *Seg, l []api.Record) {
	t.Helper()
	before, calls := fileOf(f), f.Calls()
	got, err := s.Append(l)
	if want := placesFrom(len(before), l); err != api.OK || !slices.Equal(got, want) {
		t.Fatalf("P8.1: %s: Append of %d records: %v, error %d, want %v", what, len(l), got, err, want)
	}
	if n := f.Calls() - calls; n != 1 {
		t.Fatalf("P8.1: %s: Append of %d records by %d changing calls", what, len(l), n)
	}
	if got, want := fileOf(f), joined(before, written(l...)); !bytes.Equal(got, want) {
		t.Fatalf("P8.1: %s: the file has %q behind Append, want %q", what, got, want)
	}
}

// refuses appends l, which is to be told that error, and to change nothing.
func refuses(t *testing.T, what string, f *disk.FS, s *Seg, l []api.Record, want api.Errno) {
	t.Helper()
	before, size := fileOf(f), s.Size()
	if got, err := s.Append(l); len(got) != 0 || err != want {
		t.Fatalf("P8.1: %s: Append: %v, error %d, want error %d", what, got, err, want)
	}
	if got := fileOf(f); !bytes.Equal(got, before) || s.Size() != size {
		t.Fatalf("P8.1: %s: a refused Append changes the file: %q, before %q", what, got, before)
	}
}

// randomGroup is a few records that may be appended.
func randomGroup(random *rand.Rand) []api.Record {
	var l []api.Record
	for range 1 + random.Intn(4) {
		l = append(l, api.Record{
			Kind:   1 + random.Intn(4),
			Tenant: own,
			Epoch:  uint64(random.Int63n(api.MaxNum+1)) >> random.Intn(41),
			Object: uint64(random.Int63n(api.MaxNum+1)) >> random.Intn(41),
			Seq:    uint64(random.Int63n(api.MaxNum+1)) >> random.Intn(41),
			Body:   textOf(random.Int63(), random.Intn(1001)>>random.Intn(10)),
		})
	}
	return l
}

// randomFile is a few records, and in some cases something else between them or
// behind them: a part of one, a spoilt one, another tenant's, other bytes.
func randomFile(random *rand.Rand) []byte {
	var b []byte
	for range random.Intn(5) {
		x := written(randomGroup(random)...)
		switch random.Intn(12) {
		case 0:
			x = x[:random.Intn(len(x))]
		case 1:
			x[random.Intn(len(x))] ^= 1 << random.Intn(8)
		case 2:
			x = written(strange(1, textOf(random.Int63(), random.Intn(50))))
		case 3:
			x = []byte(textOf(random.Int63(), random.Intn(60)))
		}
		b = append(b, x...)
	}
	return b
}
