package graph

import (
	"strings"
)

// audience is what the texts of Visible say of directories. As many packages can ask for one target, the texts are taken apart only once.
type audience struct {
	all   bool
	dirs  map[string]bool // these directories
	trees map[string]bool // these, and all below them
}

func audienceOf(visible []string) audience {
	a := audience{dirs: make(map[string]bool), trees: make(map[string]bool)}
	for _, text := range visible {
		dir, isDir := strings.CutPrefix(text, "//")
		tree, isTree := strings.CutSuffix(dir, "/...")
		if text == "public" || text == "//..." {
			a.all = true
		}
		if isDir {
			a.dirs[dir] = true
		}
		if isDir && isTree {
			a.trees[tree] = true
		}
	}
	return a
}

// has tells whether a directory is in the audience.
func (a audience) has(dir string) bool {
	if a.all || a.dirs[dir] || a.trees[dir] {
		return true
	}
	for i := range len(dir) {
		if dir[i] == '/' && a.trees[dir[:i]] {
			return true
		}
	}
	return false
}
