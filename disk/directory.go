package disk

import (
	"maps"
	"slices"
)

// A name has 1 to maxName letters, digits and points.
const maxName = 32

// directory is the files by their names.
type directory map[string]*file

// change is one of a directory: the name gone is no file's any more, and file,
// if there is one, gets its name. No file is named "", so that it can stand for
// no name.
type change struct {
	gone string
	name string
	file *file
}

// apply makes a change. A file that is renamed to its own name is taken out and
// put back.
func (d directory) apply(c change) {
	delete(d, c.gone)
	if c.file != nil {
		d[c.name] = c.file
	}
}

// names is the names, rising.
func (d directory) names() []string {
	return slices.Sorted(maps.Keys(d))
}

// isName says whether a file may be named so.
func isName(name string) bool {
	if len(name) == 0 || len(name) > maxName {
		return false
	}
	for i := range len(name) {
		if !isNameByte(name[i]) {
			return false
		}
	}
	return true
}

// isNameByte says whether c is a letter, a digit or a point.
func isNameByte(c byte) bool {
	switch {
	case 'a' <= c && c <= 'z', 'A' <= c && c <= 'Z', '0' <= c && c <= '9':
		return true
	}
	return c == '.'
}
