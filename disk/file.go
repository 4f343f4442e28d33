package disk

import (
	"bytes"

	"stillroom/api"
)

// file is a file's bytes. What they were when it was synced is kept of the
// dirty sectors alone: the others have not changed.
type file struct {
	now    []byte
	synced int            // how many bytes it had then
	old    map[int][]byte // the dirty sectors' bytes of then, as many as there were
}

// newFile is a file that has been synced with b, which it keeps.
func newFile(b []byte) *file {
	return &file{now: b, synced: len(b), old: map[int][]byte{}}
}

// write lays b into the file from at on, which is at most at its end.
func (f *file) write(at int, b []byte) {
	for s := range sectorsOf(at, len(b)) {
		f.soil(at/api.Sector + s)
	}
	over := copy(f.now[at:], b)
	f.now = append(f.now, b[over:]...)
}

// soil makes a sector dirty, ahead of the write that makes it so.
func (f *file) soil(sector int) {
	if _, dirty := f.old[sector]; dirty {
		return
	}
	from := min(sector*api.Sector, f.synced)
	to := min(from+api.Sector, f.synced)
	f.old[sector] = bytes.Clone(f.now[from:to])
}

// sync makes all sectors clean. A new map is as small as what it holds.
func (f *file) sync() {
	f.old = map[int][]byte{}
	f.synced = len(f.now)
}

// sectorsOf is how many sectors the n bytes from at on lie in.
func sectorsOf(at, n int) int {
	if n == 0 {
		return 0
	}
	return (at+n-1)/api.Sector - at/api.Sector + 1
}
