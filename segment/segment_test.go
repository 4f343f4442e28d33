package segment

import (
	"bytes"
	"math"
	"math/rand"
	"slices"
	"strconv"
	"strings"
	"testing"

	"stillroom/api"
	"stillroom/disk"
	"stillroom/scan"
)

func TestName(t *testing.T) {
	tenants := map[uint32]string{0: "t0.", 1: "t1.", 7: "t7.", 10: "t10.", 1 << 31: "t2147483648.", math.MaxUint32: "t4294967295."}
	nums := map[int64]string{0: "0", 1: "1", 9: "9", 10: "10", 60: "60", 1<<40 - 1: "1099511627775", 1 << 40: "1099511627776"}
	for tenant, front := range tenants {
		for num, back := range nums {
			got := Name(tenant, num)
			if got != front+back {
				t.Errorf("P8.1: Name(%d, %d): %q", tenant, num, got)
			}
			if err := disk.New(0).Create(got); err != api.OK {
				t.Errorf("P8.1: a file that is named %q: error %d", got, err)
			}
		}
		for _, num := range wrongNums {
			if got := Name(tenant, num); got != "" {
				t.Errorf("P8.1: Name(%d, %d): %q", tenant, num, got)
			}
		}
	}
}

// wrongNums are numbers that no segment has.
var wrongNums = []int64{-1, -2, -1 << 40, math.MinInt64, 1<<40 + 1, 1 << 41, math.MaxInt64}

func TestCreate(t *testing.T) {
	for _, num := range []int64{0, 1, 3, 1 << 40} {
		for _, tenant := range []uint32{0, own, math.MaxUint32} {
			f := disk.New(1000)
			s, err := Create(f, tenant, num)
			if s == nil || err != api.OK || s.Size() != 0 || len(s.Records()) != 0 || f.Size(Name(tenant, num)) != 0 {
				t.Fatalf("P8.1: Create(%d, %d): error %d", tenant, num, err)
			}
			if f.Calls() != 2 || f.Used() != 0 {
				t.Errorf("P8.1: Create(%d, %d): %d changing calls, %d bytes", tenant, num, f.Calls(), f.Used())
			}
			if got := f.Crash(0, nil, -1).Names(); !slices.Equal(got, []string{Name(tenant, num)}) {
				t.Errorf("P8.1: Create(%d, %d): %q are synced", tenant, num, got)
			}
			r := part(1, "body")
			r.Tenant = tenant
			if l, err := s.Append([]api.Record{r}); err != api.OK || !slices.Equal(l, []int{0}) {
				t.Errorf("P8.1: Create(%d, %d): Append: %v, error %d", tenant, num, l, err)
			}
		}
	}
}

// refusedCreate is a Create that is to be told that error, and to change
// nothing.
func refusedCreate(t *testing.T, f *disk.FS, tenant uint32, num int64, want api.Errno) {
	t.Helper()
	calls, names, used := f.Calls(), f.Names(), f.Used()
	if s, err := Create(f, tenant, num); s != nil || err != want {
		t.Errorf("P8.1: Create(%d, %d): error %d, want %d", tenant, num, err, want)
	}
	if want != api.ErrFull && f.Calls() != calls || !slices.Equal(f.Names(), names) || f.Used() != used {
		t.Errorf("P8.1: Create(%d, %d), which is refused, changes the disk: %q", tenant, num, f.Names())
	}
}

func TestCreateRefused(t *testing.T) {
	f, s := created(t)
	refusedCreate(t, f, own, num, api.ErrExists) // though it is empty
	appends(t, "a segment", f, s, []api.Record{part(1, "first")})
	for _, num := range wrongNums {
		refusedCreate(t, f, own, num, api.ErrRange)
	}
	refusedCreate(t, f, own, num, api.ErrExists)
	holds(t, "a segment that was created again", f, s, written(part(1, "first")))

	// Whatever the file holds, and whoever made it.
	must(t, f.Create("t8.5"))
	must(t, f.Write("t8.5", 0, []byte("bytes")))
	refusedCreate(t, f, other, 5, api.ErrExists)
	for k := range api.MaxFiles - 2 {
		must(t, f.Create("x"+strconv.Itoa(k)))
	}
	refusedCreate(t, f, own, 4, api.ErrFull)
	refusedCreate(t, f, own, num, api.ErrExists)
	refusedCreate(t, f, own, -1, api.ErrRange)

	// These are told ahead of what the disk would tell.
	f.Fail(0)
	refusedCreate(t, f, own, num, api.ErrExists)
	refusedCreate(t, f, own, 1<<40+1, api.ErrRange)
	if err := f.SyncDir(); err != api.ErrIO {
		t.Errorf("P8.1: a refused Create asks the disk: error %d", err)
	}
	refusedCreate(t, nil, own, num, api.ErrNotFound)
	refusedCreate(t, nil, own, -1, api.ErrRange)
}

func TestCreateAgain(t *testing.T) {
	f, s := created(t)
	appends(t, "a segment", f, s, []api.Record{part(1, "first")})
	must(t, f.Remove(name))
	s, err := Create(f, own, num)
	if err != api.OK {
		t.Fatalf("P8.1: Create of one that is gone: error %d", err)
	}
	holds(t, "one that was made anew", f, s, nil)
}

func TestOpen(t *testing.T) {
	f, s := created(t)
	appends(t, "a segment", f, s, []api.Record{part(1, "first"), part(2, "")})
	calls := f.Calls()
	f.Fail(0)
	x, err := Open(f, own, num)
	if x == nil || err != api.OK || f.Calls() != calls {
		t.Fatalf("P8.1: Open: error %d, %d changing calls", err, f.Calls()-calls)
	}
	holds(t, "one that was opened", f, x, written(part(1, "first"), part(2, "")))
	if l, err := x.Append([]api.Record{part(3, "")}); err != api.ErrIO || len(l) != 0 {
		t.Fatalf("P8.1: Append behind Open asks the disk: %v, error %d", l, err)
	}
	appends(t, "one that was opened", f, x, []api.Record{part(3, "third")})
}

func TestOpenNotFound(t *testing.T) {
	f, _ := created(t)
	for _, c := range []struct {
		f      *disk.FS
		tenant uint32
		num    int64
	}{{f, own, num - 1}, {f, own, num + 1}, {f, other, num}, {f, 0, 0}, {f, own, 33}, {disk.New(100), own, num}, {nil, own, num}} {
		for _, n := range append(slices.Clone(wrongNums), c.num) {
			if s, err := Open(c.f, c.tenant, n); s != nil || err != api.ErrNotFound {
				t.Errorf("P8.1: Open(%d, %d): error %d", c.tenant, n, err)
			}
		}
	}
	if !slices.Equal(f.Names(), []string{name}) {
		t.Errorf("P8.1: Open makes files: %q", f.Names())
	}
	must(t, f.Remove(name))
	if s, err := Open(f, own, num); s != nil || err != api.ErrNotFound {
		t.Errorf("P8.1: Open of a file that is gone: error %d", err)
	}
}

// groups are appended one behind the other.
func groups() [][]api.Record {
	var many []api.Record
	for k := range 200 {
		many = append(many, part(uint64(k), textOf(int64(k), k%90)))
	}
	return [][]api.Record{
		{part(1, "")},
		{part(2, "a body")},
		{part(3, "two"), part(4, "of them")},
		{part(5, ""), part(5, ""), part(5, "")},
		{
			{Kind: api.KHead, Tenant: own},
			{Kind: api.KPart, Tenant: own, Epoch: api.MaxNum, Object: api.MaxNum, Seq: api.MaxNum, Body: textOf(1, api.MaxPart)},
			{Kind: api.KCommit, Tenant: own, Epoch: 1, Object: 2, Seq: 3, Body: "SRSR"},
			{Kind: api.KDelete, Tenant: own, Epoch: 3, Object: 2, Seq: 1, Body: textOf(2, 999)},
		},
		many,
		{part(6, "last")},
	}
}

func TestAppend(t *testing.T) {
	f, s := created(t)
	var all []byte
	var want []scan.Found
	for k, l := range groups() {
		for i, at := range placesFrom(len(all), l) {
			want = append(want, scan.Found{At: at, R: l[i]})
		}
		appends(t, "group "+strconv.Itoa(k), f, s, l)
		all = append(all, written(l...)...)
		if s.Size() != len(all) || !slices.Equal(s.Records(), want) {
			t.Fatalf("P8.1: group %d: %d bytes, want %d; %s", k, s.Size(), len(all), told(s.Records()))
		}
		again, err := Open(f, own, num)
		must(t, err)
		for _, x := range want {
			r, err := s.Read(x.At)
			anew, errAnew := again.Read(x.At)
			if r != x.R || err != api.OK || anew != x.R || errAnew != api.OK {
				t.Fatalf("P8.1: group %d: Read(%d): error %d, opened anew %d", k, x.At, err, errAnew)
			}
		}
		if again.Size() != len(all) || !slices.Equal(again.Records(), want) {
			t.Fatalf("P8.1: group %d, opened anew: %d bytes, %s", k, again.Size(), told(again.Records()))
		}
	}
	holds(t, "all groups", f, s, all)
}

func TestAppendToOneThatWasOpened(t *testing.T) {
	f, _ := created(t)
	var all []byte
	for k, l := range groups() {
		s, err := Open(f, own, num)
		must(t, err)
		appends(t, "opened, group "+strconv.Itoa(k), f, s, l)
		all = append(all, written(l...)...)
		if s.Size() != len(all) || !bytes.Equal(fileOf(f), all) {
			t.Fatalf("P8.1: opened, group %d: %d bytes, want %d", k, s.Size(), len(all))
		}
	}
}

// wrongGroups are refused: none, records that may not be, those of others.
func wrongGroups() [][]api.Record {
	good := part(1, "good")
	l := [][]api.Record{nil, {}, make([]api.Record, 0, 5), {{}}, {{Kind: api.KPart}}}
	for _, change := range []func(r *api.Record){
		func(r *api.Record) { r.Kind = 0 },
		func(r *api.Record) { r.Kind = 5 },
		func(r *api.Record) { r.Kind = math.MinInt },
		func(r *api.Record) { r.Kind = 258 },
		func(r *api.Record) { r.Epoch = api.MaxNum + 1 },
		func(r *api.Record) { r.Object = api.MaxNum + 1 },
		func(r *api.Record) { r.Seq = math.MaxUint64 },
		func(r *api.Record) { r.Body = strings.Repeat("x", api.MaxPart+1) },
		func(r *api.Record) { r.Body = strings.Repeat("x", 1<<20) },
		func(r *api.Record) { r.Tenant = other },
		func(r *api.Record) { r.Tenant = 0 },
		func(r *api.Record) { r.Tenant = math.MaxUint32 },
		func(r *api.Record) { r.Tenant, r.Kind = other, 0 },
	} {
		bad := good
		change(&bad)
		l = append(l, []api.Record{bad}, []api.Record{bad, good}, []api.Record{good, bad}, []api.Record{good, good, bad, good})
		l = append(l, append(slices.Repeat([]api.Record{good}, 50), bad))
	}
	return l
}

func TestAppendRefused(t *testing.T) {
	f, s := created(t)
	for _, l := range append(wrongGroups(), wrongGroups()...) {
		calls := f.Calls()
		refuses(t, "a wrong group", f, s, l, api.ErrForm)
		if f.Calls() != calls {
			t.Fatalf("P8.1: a wrong group of %d records asks the disk", len(l))
		}
		appends(t, "behind a wrong group", f, s, []api.Record{part(2, "b")})
	}
	if got, _ := reckoned(fileOf(f)); len(got) != 2*len(wrongGroups()) || !slices.Equal(s.Records(), got) {
		t.Errorf("P8.1: %s", told(s.Records()))
	}
}

// Of the errors of Append that which the chapter names first counts.
func TestErrorsOfAppendInOrder(t *testing.T) {
	good := []api.Record{part(1, "good")}
	_, gone := opened(t, nil)
	must(t, gone.disk.Remove(name))
	f, s := opened(t, []byte("S"))
	f.Room(0)
	f.Fail(0)
	for _, l := range wrongGroups() {
		refuses(t, "a wrong group, nowhere to append", f, s, l, api.ErrForm)
		if got, err := gone.Append(l); len(got) != 0 || err != api.ErrForm {
			t.Fatalf("P8.1: a wrong group, no file: %v, error %d", got, err)
		}
	}
	refuses(t, "nowhere to append", f, s, good, api.ErrCorrupt)
	if err := f.SyncDir(); err != api.ErrIO {
		t.Errorf("P8.1: an Append that was refused asks the disk: error %d", err)
	}
}

func TestFilesOfAnyBytes(t *testing.T) {
	a, b, c := part(1, "first"), part(2, ""), part(3, textOf(3, 100))
	spoilt := written(b)
	spoilt[38] ^= 1
	x := strange(4, "another one's")
	for k, pieces := range []struct {
		front []byte // what Records tells
		rest  []byte // what it doesn't
	}{
		{nil, nil}, {written(a), nil}, {written(a, b, c), nil}, {written(c, c), nil},
		{nil, []byte{0}}, {nil, []byte("S")}, {nil, []byte("SR")}, {nil, make([]byte, 100)}, {nil, []byte(textOf(1, 500))},
		{nil, spoilt}, {nil, joined(spoilt, written(a))}, {nil, joined([]byte{0}, written(a))},
		{nil, written(a)[:43]}, {nil, written(a)[1:]}, {nil, written(a)[:38]},
		{written(a), []byte("S")}, {written(a), written(c)[:138]}, {written(a, b), make([]byte, 64)},
		{written(a), spoilt}, {written(a, c), joined(spoilt, written(a, b))}, {written(a), joined([]byte("x"), written(b))},
		{nil, written(x)}, {nil, written(x, a)}, {written(a), written(x)}, {written(a, b), written(x, c)}, {written(a), joined(written(x), spoilt)},
	} {
		what := "file " + strconv.Itoa(k)
		all := joined(pieces.front, pieces.rest)
		f, s := opened(t, all)
		holds(t, what, f, s, all)
		if got, whole := reckoned(pieces.front); !whole || !slices.Equal(s.Records(), got) {
			t.Fatalf("P8.1: %s: %s, want %s", what, told(s.Records()), told(got))
		}
		if len(pieces.rest) > 0 {
			calls := f.Calls()
			refuses(t, what, f, s, []api.Record{a, b}, api.ErrCorrupt)
			if f.Calls() != calls {
				t.Fatalf("P8.1: %s: a refused Append asks the disk", what)
			}
			holds(t, what+", refused", f, s, all)
			continue
		}
		appends(t, what, f, s, []api.Record{a, b})
		holds(t, what+", appended", f, s, joined(all, written(a, b)))
	}
}

// One byte amiss anywhere: what is told ends ahead of that record.
func TestOneByteChangedInEachPlace(t *testing.T) {
	a, b, c := part(1, "first"), part(2, "second one"), part(3, "")
	all := written(a, b, c)
	for at := range all {
		spoilt := bytes.Clone(all)
		spoilt[at] ^= 4
		f, s := opened(t, spoilt)
		want := 2
		switch {
		case at < 44:
			want = 0
		case at < 44+49:
			want = 1
		}
		if got := s.Records(); len(got) != want || s.Size() != len(all) {
			t.Fatalf("P8.1: byte %d changed: %s, %d bytes", at, told(got), s.Size())
		}
		refuses(t, "a changed byte", f, s, []api.Record{a}, api.ErrCorrupt)
	}
}

func TestCutOffInEachPlace(t *testing.T) {
	all := written(part(1, "first"), part(2, "second one"))
	for n := range len(all) + 1 {
		f, s := opened(t, all[:n])
		holds(t, "a file that was cut off", f, s, all[:n])
		if n == 0 || n == 44 || n == len(all) {
			appends(t, "a file that was cut off", f, s, []api.Record{part(3, "")})
		} else {
			refuses(t, "a file that was cut off", f, s, []api.Record{part(3, "")}, api.ErrCorrupt)
		}
	}
}

func TestRead(t *testing.T) {
	inner := part(9, "within")
	l := []api.Record{part(1, "first"), part(2, ""), part(3, textOf(1, 1000)), part(4, "ahead"+string(written(inner, strange(10, "x")))), part(5, "last")}
	f, s := created(t)
	appends(t, "records", f, s, l)
	places := placesFrom(0, l)
	held := map[int]api.Record{}
	for i, r := range l {
		held[places[i]] = r
	}
	// All of a record is there, though within another one.
	held[places[3]+39+5] = inner
	for at := range s.Size() {
		want, ok := held[at]
		wantErr := api.ErrCorrupt
		if ok {
			wantErr = api.OK
		}
		if got, err := s.Read(at); got != want || err != wantErr {
			t.Errorf("P8.1: Read(%d): %d, error %d, want %d, error %d", at, got.Seq, err, want.Seq, wantErr)
		}
	}
	for _, at := range []int{-1, -39, math.MinInt, math.MinInt + 1, s.Size(), s.Size() + 1, s.Size() + 39, 1 << 40, math.MaxInt} {
		if got, err := s.Read(at); got != (api.Record{}) || err != api.ErrRange {
			t.Errorf("P8.1: Read(%d) of %d bytes: %+v, error %d", at, s.Size(), got, err)
		}
	}
}

// What is not told by Records may be read yet, but another tenant's may not.
func TestReadBehindTheFront(t *testing.T) {
	mine, theirs := part(1, "mine"), strange(2, "theirs")
	f, s := opened(t, joined(written(mine, theirs), []byte("S"), written(mine), written(mine)[:42]))
	for at, want := range map[int]api.Errno{0: api.OK, 43: api.ErrCorrupt, 88: api.ErrCorrupt, 89: api.OK, 132: api.ErrCorrupt, 174: api.ErrRange} {
		r, err := s.Read(at)
		if err != want || (err == api.OK) != (r == mine) {
			t.Errorf("P8.1: Read(%d): %d, error %d, want %d", at, r.Seq, err, want)
		}
	}
	if l := s.Records(); len(l) != 1 {
		t.Errorf("P8.1: %s", told(l))
	}
	x, err := Open(f, other, num)
	if x != nil || err != api.ErrNotFound {
		t.Errorf("P8.1: Open of another tenant's: error %d", err)
	}
}

func TestReadOfAnEmptySegment(t *testing.T) {
	_, s := created(t)
	for _, at := range []int{math.MinInt, -1, 0, 1, math.MaxInt} {
		if r, err := s.Read(at); r != (api.Record{}) || err != api.ErrRange {
			t.Errorf("P8.1: Read(%d) of none: error %d", at, err)
		}
	}
}

func TestNilSegment(t *testing.T) {
	var s *Seg
	for _, l := range append(wrongGroups(), []api.Record{part(1, "good")}, []api.Record{{Kind: api.KHead}}) {
		if got, err := s.Append(l); len(got) != 0 || err != api.ErrClosed {
			t.Errorf("P8.1: Append on nil: %v, error %d", got, err)
		}
	}
	for _, at := range []int{math.MinInt, -1, 0, 1, math.MaxInt} {
		if r, err := s.Read(at); r != (api.Record{}) || err != api.ErrClosed {
			t.Errorf("P8.1: Read(%d) on nil: error %d", at, err)
		}
	}
	if s.Sync() != api.ErrClosed || s.Size() != 0 || len(s.Records()) != 0 {
		t.Errorf("P8.1: nil: Sync %d, Size %d, %s", s.Sync(), s.Size(), told(s.Records()))
	}
}

// A segment that neither Create nor Open made has no disk.
func TestZeroSegment(t *testing.T) {
	s := &Seg{}
	l, err := s.Append([]api.Record{{Kind: api.KHead}})
	r, errRead := s.Read(0)
	if len(l) != 0 || err != api.ErrNotFound || r != (api.Record{}) || errRead != api.ErrRange {
		t.Errorf("P0.1: Append %v, error %d; Read error %d", l, err, errRead)
	}
	if s.Sync() != api.ErrNotFound || s.Size() != 0 || len(s.Records()) != 0 {
		t.Errorf("P0.1: Sync %d, Size %d, %s", s.Sync(), s.Size(), told(s.Records()))
	}
}

func TestAnswersAreNewMemory(t *testing.T) {
	f, s := created(t)
	l := []api.Record{part(1, "first"), part(2, "second"), part(3, "")}
	places, err := s.Append(l)
	must(t, err)
	want, _ := reckoned(fileOf(f))
	for i := range places[:cap(places)] {
		places[:cap(places)][i] = -7
	}
	found, again := s.Records(), s.Records()
	for i := range found[:cap(found)] {
		found[:cap(found)][i] = scan.Found{At: -7, R: strange(7, "spoilt")}
	}
	if !slices.Equal(again, want) {
		t.Errorf("P0.3: writing into an answer changes another one: %s", told(again))
	}
	holds(t, "answers that were written into", f, s, written(l...))
	appends(t, "answers that were written into", f, s, l)
}

func TestNoRecordsOfOthersInSpareRoom(t *testing.T) {
	_, s := opened(t, written(part(1, "mine"), strange(2, "theirs"), part(3, "mine")))
	l := s.Records()
	for _, x := range l[:cap(l)] {
		if x.R.Tenant == other {
			t.Errorf("P8.1: another tenant's record %d is in the spare room", x.R.Seq)
		}
	}
}

func TestWhatIsHandedInIsNeitherChangedNorKept(t *testing.T) {
	f, s := created(t)
	all := []api.Record{part(1, "first"), part(2, "second"), part(3, "spare"), strange(4, "room")}
	before := slices.Clone(all)
	appends(t, "a list with spare room", f, s, all[:2])
	refuses(t, "a list with another one's", f, s, all, api.ErrForm)
	if !slices.Equal(all, before) {
		t.Errorf("P0.3: Append changes what was handed in: %v", all)
	}
	clear(all)
	holds(t, "a list that was cleared", f, s, written(before[:2]...))
}

// Segments of one disk are each for itself.
func TestSegmentsOfOneDisk(t *testing.T) {
	f := disk.New(api.MaxDisk)
	texts := map[string][]byte{}
	segs := map[string]*Seg{}
	for _, tenant := range []uint32{1, 11, 7} {
		for _, num := range []int64{1, 11, 0} {
			s, err := Create(f, tenant, num)
			must(t, err)
			segs[Name(tenant, num)] = s
		}
	}
	random := rand.New(rand.NewSource(1))
	names := f.Names()
	if len(names) != 9 {
		t.Fatalf("P8.1: nine segments have the files %q", names)
	}
	for range 100 {
		name := names[random.Intn(len(names))]
		r := part(random.Uint64()>>30, textOf(random.Int63(), random.Intn(100)))
		r.Tenant = segs[name].tenant
		if l, err := segs[name].Append([]api.Record{r}); err != api.OK || !slices.Equal(l, []int{len(texts[name])}) {
			t.Fatalf("P8.1: %s: Append: %v, error %d", name, l, err)
		}
		texts[name] = append(texts[name], written(r)...)
	}
	for _, name := range names {
		if b, err := f.Read(name, 0, segs[name].Size()); err != api.OK || !bytes.Equal(b, texts[name]) {
			t.Errorf("P8.1: %s has other bytes than were appended to it", name)
		}
	}
}

// What one of them appends the other one tells, and goes on behind.
func TestOneFileOpenedTwice(t *testing.T) {
	f, a := created(t)
	b, err := Open(f, own, num)
	must(t, err)
	var all []byte
	for k := range 6 {
		l := []api.Record{part(uint64(k), "body"), part(uint64(k), "")}
		appends(t, "a file that is open twice", f, []*Seg{a, b}[k%2], l)
		all = append(all, written(l...)...)
		holds(t, "the one", f, a, all)
		holds(t, "the other", f, b, all)
	}
	must(t, f.Write(name, 0, []byte{0}))
	refuses(t, "a file that was written over", f, a, []api.Record{part(9, "")}, api.ErrCorrupt)
	refuses(t, "a file that was written over", f, b, []api.Record{part(9, "")}, api.ErrCorrupt)
}

func TestFileThatIsGone(t *testing.T) {
	f, s := created(t)
	appends(t, "a file that goes", f, s, []api.Record{part(1, "first")})
	must(t, f.Remove(name))
	l, err := s.Append([]api.Record{part(2, "")})
	r, errRead := s.Read(0)
	if len(l) != 0 || err != api.ErrNotFound || r != (api.Record{}) || errRead != api.ErrRange {
		t.Errorf("P8.1: a file that is gone: Append %v, error %d; Read error %d", l, err, errRead)
	}
	if s.Sync() != api.ErrNotFound || s.Size() != 0 || len(s.Records()) != 0 || len(f.Names()) != 0 {
		t.Errorf("P8.1: a file that is gone: Sync %d, Size %d, %s", s.Sync(), s.Size(), told(s.Records()))
	}
}

func TestManyRecords(t *testing.T) {
	f, s := created(t)
	l := slices.Repeat([]api.Record{part(1, "")}, 1<<22/39)
	appends(t, "as many as there is room for", f, s, l)
	if got := s.Records(); len(got) != len(l) || got[len(got)-1].At != 39*(len(l)-1) {
		t.Errorf("P8.1: %s of %d", told(got), len(l))
	}
	refuses(t, "one more", f, s, l[:1], api.ErrFull)
}

func TestFilesAgainstAnotherReckoning(t *testing.T) {
	random := rand.New(rand.NewSource(2))
	wholes, others := 0, 0
	for range 400 {
		b := randomFile(random)
		f, s := opened(t, b)
		holds(t, "a random file", f, s, b)
		l := randomGroup(random)
		if _, whole := reckoned(b); whole {
			wholes++
			appends(t, "a random file", f, s, l)
			b = append(b, written(l...)...)
		} else {
			others++
			refuses(t, "a random file", f, s, l, api.ErrCorrupt)
		}
		holds(t, "a random file later", f, s, b)
	}
	if wholes < 100 || others < 100 {
		t.Errorf("%d files are whole, %d are not", wholes, others)
	}
}

func TestCallsHangOnNothingElse(t *testing.T) {
	f, s := created(t)
	l := []api.Record{part(1, "first"), part(2, "second")}
	appends(t, "a segment", f, s, l)
	random := rand.New(rand.NewSource(3))
	for range 20 {
		g, x := created(t)
		appends(t, "another disk's", g, x, randomGroup(random))
		must(t, x.Sync())
		holds(t, "a segment ahead of others' calls", f, s, written(l...))
	}
}
