package merge

import (
	"slices"
	"strings"

	"mainline/api"
	"mainline/store"
)

const slash = "/"

// changesTo returns what must become of base, so that it has these outcomes: files in order, of which those with the number nothing are taken away. A path that is taken again comes twice, and is taken away first.
func (m merger) changesTo(outcomes []api.File) []api.File {
	changes := slices.Clone(outcomes)
	for _, file := range m.changed {
		changes = append(changes, api.File{Path: file.Path, Id: nothing})
	}
	return sortedOnce(changes, isFileBefore)
}

// rebuilt returns the entries of the directory dir after the changes, which all lie below it, their names in it beginning at start. Only directories with changes are looked into.
func rebuilt(s *store.Store, dir, start int, changed []api.File) []api.Entry {
	before, _ := s.Entries(dir)
	var after []api.Entry
	for len(changed) > 0 {
		name, _, _ := strings.Cut(changed[0].Path[start:], slash)
		for len(before) > 0 && before[0].Name < name {
			after, before = append(after, before[0]), before[1:]
		}
		old := api.Entry{Name: name}
		if len(before) > 0 && before[0].Name == name {
			old, before = before[0], before[1:]
		}
		many := countAt(changed, start, name)
		after = append(after, rebuiltEntry(s, old, start+len(name), changed[:many])...)
		changed = changed[many:]
	}
	return append(after, before...)
}

// countAt returns how many files at the beginning of the list have this name at start.
func countAt(files []api.File, start int, name string) int {
	many := 0
	for many < len(files) {
		first, _, _ := strings.Cut(files[many].Path[start:], slash)
		if first != name {
			break
		}
		many++
	}
	return many
}

// rebuiltEntry returns what an entry, whose name ends at end in the paths, becomes by the changes at it and below it: one entry or none.
func rebuiltEntry(s *store.Store, old api.Entry, end int, changed []api.File) []api.Entry {
	file := nothing
	for len(changed) > 0 && len(changed[0].Path) == end {
		file, changed = changed[0].Id, changed[1:]
	}
	if file != nothing { // outcomes do not lie below each other, so that nothing remains there
		return []api.Entry{{Name: old.Name, Id: file}}
	}
	below := rebuilt(s, old.Id, end+len(slash), changed) // of a file that was here, nothing remains
	if len(below) == 0 {
		return nil
	}
	id, _ := s.Tree(below)
	return []api.Entry{{Name: old.Name, Dir: true, Id: id}}
}

// countFiles returns the number of files below a directory, but at most one more than a tree may have; known are the numbers of files of directories, by their numbers. A directory that is in many places can have more files below it than could be visited, or counted, one by one.
func countFiles(s *store.Store, dir int, known map[int]int) int {
	if many, counted := known[dir]; counted {
		return many
	}
	many := 0
	entries, _ := s.Entries(dir)
	for _, entry := range entries {
		below := 1
		if entry.Dir {
			below = countFiles(s, entry.Id, known)
		}
		many = min(many+below, api.MaxFiles+1)
	}
	known[dir] = many
	return many
}
