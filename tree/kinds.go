package tree

import (
	"mainline/api"
	"mainline/paths"
)

// kinds tells for the paths of files, and of all directories above them, which of both each one is: true for a directory.
type kinds map[string]bool

// addFile adds a file with a valid path, unless this contradicts what is there.
func (k kinds) addFile(path string) api.Errno {
	isDirectory, known := k[path]
	switch {
	case isDirectory:
		return api.ErrKind
	case known:
		return api.ErrTwice
	}
	for dir := paths.Dir(path); dir != ""; dir = paths.Dir(dir) {
		isDirectory, known := k[dir]
		if isDirectory { // and so are all above it
			break
		}
		if known {
			return api.ErrKind
		}
		k[dir] = true
	}
	k[path] = false
	return api.OK
}
