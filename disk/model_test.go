package disk

import (
	"math/rand"
	"slices"
	"sort"
	"strconv"
	"testing"

	"stillroom/api"
)

// model is a disk that is reckoned another way: all directories since the
// synced one are kept, and of each file all bytes with what was synced of them.
type model struct {
	room int
	dirs []map[string]*plain // the first is the synced one, the last is now
}

// plain is a model's file.
type plain struct {
	now, synced []byte
	written     []bool // byte by byte
}

func newModel(room int) *model {
	return &model{room: room, dirs: []map[string]*plain{{}}}
}

func (m *model) dir() map[string]*plain { return m.dirs[len(m.dirs)-1] }

// next is a copy of the directory, which the change is to be made in.
func (m *model) next() map[string]*plain {
	copied := map[string]*plain{}
	for name, p := range m.dir() {
		copied[name] = p
	}
	m.dirs = append(m.dirs, copied)
	return copied
}

func (m *model) used() int {
	used := 0
	for _, p := range m.dir() {
		used += len(p.now)
	}
	return used
}

func (m *model) create(name string) { m.next()[name] = &plain{} }

func (m *model) write(name string, at int, b []byte) api.Errno {
	p := m.dir()[name]
	switch {
	case p == nil:
		return api.ErrNotFound
	case at < 0 || at > len(p.now):
		return api.ErrRange
	case at+len(b) > len(p.now) && m.used()-len(p.now)+at+len(b) > m.room:
		return api.ErrFull
	}
	for i, c := range b {
		if at+i == len(p.now) {
			p.now = append(p.now, 0)
			p.written = append(p.written, false)
		}
		p.now[at+i] = c
		p.written[at+i] = true
	}
	return api.OK
}

func (m *model) sync(name string) api.Errno {
	p := m.dir()[name]
	if p == nil {
		return api.ErrNotFound
	}
	p.synced = slices.Clone(p.now)
	p.written = make([]bool, len(p.now))
	return api.OK
}

func (m *model) rename(from, to string) api.Errno {
	if m.dir()[from] == nil {
		return api.ErrNotFound
	}
	next := m.next()
	p := next[from]
	delete(next, from)
	next[to] = p
	return api.OK
}

func (m *model) remove(name string) api.Errno {
	if m.dir()[name] == nil {
		return api.ErrNotFound
	}
	delete(m.next(), name)
	return api.OK
}

func (m *model) syncDir() { m.dirs = m.dirs[len(m.dirs)-1:] }

// dirty is a file's dirty sectors, rising.
func (p *plain) dirty() []int {
	list := []int{}
	for i, w := range p.written {
		if s := i / 64; w && (len(list) == 0 || list[len(list)-1] != s) {
			list = append(list, s)
		}
	}
	return list
}

func sortedNames(dir map[string]*plain) []string {
	names := []string{}
	for name := range dir {
		names = append(names, name)
	}
	sort.Strings(names)
	return names
}

func (m *model) dirty() int {
	n := 0
	for _, p := range m.dir() {
		n += len(p.dirty())
	}
	return n
}

func (m *model) contents() string {
	s := ""
	for _, name := range sortedNames(m.dir()) {
		s += name + ":" + string(m.dir()[name].now) + " "
	}
	return s
}

func (m *model) crash(n int, keep []bool, torn int) *model {
	dir := m.dirs[min(max(n, 0), len(m.dirs)-1)]
	left := newModel(m.room)
	i := 0
	for _, name := range sortedNames(dir) {
		p := dir[name]
		b := slices.Clone(p.synced)
		for _, s := range p.dirty() {
			part := 0
			if i < len(keep) && keep[i] {
				part = 64
			}
			if i == torn {
				part = 32
			}
			i++
			for at := 64 * s; at < 64*s+part && at < len(p.now); at++ {
				for len(b) <= at {
					b = append(b, 0)
				}
				b[at] = p.now[at]
			}
		}
		left.dir()[name] = &plain{now: b, synced: slices.Clone(b), written: make([]bool, len(b))}
	}
	return left
}

// play makes one step, taken at random, on both.
func play(t *testing.T, r *rand.Rand, f *FS, m *model) {
	name := func() string { return string(rune('a' + r.Intn(4))) }
	a, b := name(), name()
	got, want := api.OK, api.OK
	switch r.Intn(12) {
	case 0:
		got = f.Create(a)
		m.create(a)
	case 1:
		got, want = f.Sync(a), m.sync(a)
	case 2:
		got = f.SyncDir()
		m.syncDir()
	case 3:
		got, want = f.Rename(a, b), m.rename(a, b)
	case 4:
		if r.Intn(2) == 0 {
			got, want = f.Remove(a), m.remove(a)
		}
	case 5:
		m.room = 600 + r.Intn(600)
		f.Room(m.room)
	default:
		text := make([]byte, r.Intn(1+r.Intn(200)))
		r.Read(text)
		at := r.Intn(max(f.Size(a), 0)+3) - 1
		if r.Intn(3) == 0 {
			at = f.Size(a)
		}
		got, want = f.Write(a, at, text), m.write(a, at, text)
	}
	if got != want {
		t.Fatalf("P5.1: error %d, want %d", got, want)
	}
}

// compare holds what both tell of themselves against each other.
func compare(t *testing.T, f *FS, m *model) {
	if got, want := contents(f), m.contents(); got != want {
		t.Fatalf("P5.1: %q, want %q", got, want)
	}
	if f.Used() != m.used() || f.Dirty() != m.dirty() || !slices.Equal(f.Names(), sortedNames(m.dir())) {
		t.Fatalf("P5.3: %d used, %d dirty, want %d, %d", f.Used(), f.Dirty(), m.used(), m.dirty())
	}
}

func TestAgainstAModel(t *testing.T) {
	for seed := range 60 {
		t.Run(strconv.Itoa(seed), func(t *testing.T) {
			r := rand.New(rand.NewSource(int64(seed)))
			f, m := New(1000), newModel(1000)
			for range 400 {
				play(t, r, f, m)
				compare(t, f, m)
				keep := make([]bool, r.Intn(20))
				for i := range keep {
					keep[i] = r.Intn(2) == 0
				}
				n, torn := r.Intn(8)-1, r.Intn(12)-1
				g, left := f.Crash(n, keep, torn), m.crash(n, keep, torn)
				compare(t, g, left)
				if r.Intn(40) == 0 {
					f, m = g, left
				}
			}
		})
	}
}
