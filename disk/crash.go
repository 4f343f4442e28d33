package disk

import (
	"bytes"
	"maps"
	"slices"

	"stillroom/api"
)

// tornSize is how many bytes of a torn sector were written.
const tornSize = api.Sector / 2

// Crash is the disk that a crash leaves of f, which stays as it is: the
// directory with n of the changes that wait, and of the dirty sectors those of
// keep, and a part of the one that is torn.
func (f *FS) Crash(n int, keep []bool, torn int) *FS {
	if f == nil {
		return nil
	}
	left := New(f.room)
	maps.Copy(left.synced, f.synced)
	for _, c := range f.waiting[:min(max(n, 0), len(f.waiting))] {
		left.synced.apply(c)
	}
	first := 0
	for _, name := range left.synced.names() {
		file := left.synced[name]
		parts := make([]int, len(file.old))
		for i := range parts {
			parts[i] = partOf(first+i, keep, torn)
		}
		first += len(parts)
		// Its own copy, so that neither disk sees what the other one writes.
		left.synced[name] = file.crashed(parts)
	}
	maps.Copy(left.now, left.synced)
	return left
}

// partOf is how many of the first bytes of the i-th dirty sector were written.
func partOf(i int, keep []bool, torn int) int {
	switch {
	case i == torn:
		return tornSize
	case i < len(keep) && keep[i]:
		return api.Sector
	}
	return 0
}

// crashed is what is left of a file when so many of the first bytes of each
// dirty sector were written.
func (f *file) crashed(parts []int) *file {
	sectors := slices.Sorted(maps.Keys(f.old))
	size := f.crashedSize(sectors, parts)
	b := bytes.Clone(f.now[:size])
	for i, sector := range sectors {
		old, from := f.old[sector], sector*api.Sector
		lost := b[min(from+parts[i], size):min(from+api.Sector, size)]
		clear(lost)
		copy(lost, old[min(parts[i], len(old)):])
	}
	return newFile(b)
}

// crashedSize is how long the file is then.
func (f *file) crashedSize(sectors, parts []int) int {
	size := f.synced
	for i, sector := range sectors {
		if parts[i] > 0 {
			size = max(size, min(sector*api.Sector+parts[i], len(f.now)))
		}
	}
	return size
}
