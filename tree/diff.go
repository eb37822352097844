package tree

import (
	"iter"
	"slices"

	"mainline/api"
	"mainline/store"
)

// change is a path at which two trees have different files; a file that does not exist has the number nothing.
type change struct {
	path          string
	before, after int
}

// place is a path below the roots of two trees, with what each of them has there: the zero Entry where it has nothing.
type place struct {
	start         int // of the name in the path
	name          string
	before, after api.Entry
}

// Diff compares the files of a and b.
func Diff(s *store.Store, a, b int) []api.Delta {
	var deltas []api.Delta
	var added []api.File
	removed := make(map[int][]string) // for each contents, the old paths that no added file has got yet, in order
	for changed := range changes(s, a, b) {
		switch {
		case changed.before == nothing:
			added = append(added, api.File{Path: changed.path, Id: changed.after})
		case changed.after == nothing:
			removed[changed.before] = append(removed[changed.before], changed.path)
		default:
			deltas = append(deltas, api.Delta{Kind: api.Modified, Path: changed.path, Old: changed.before, New: changed.after})
		}
	}
	for _, file := range added {
		deltas = append(deltas, arrival(file, removed))
	}
	for id, gone := range removed {
		for _, path := range gone {
			deltas = append(deltas, api.Delta{Kind: api.Removed, Path: path, Old: id})
		}
	}
	slices.SortFunc(deltas, func(a, b api.Delta) int { return comparePaths(a.Path, b.Path) })
	return deltas
}

// arrival returns the delta of an added file: if there is a removed one with its contents, both are one renamed file, and the old path is taken out of removed.
func arrival(file api.File, removed map[int][]string) api.Delta {
	gone := removed[file.Id]
	switch len(gone) {
	case 0:
		return api.Delta{Kind: api.Added, Path: file.Path, New: file.Id}
	case 1:
		delete(removed, file.Id)
	default:
		removed[file.Id] = gone[1:]
	}
	return api.Delta{Kind: api.Renamed, Path: file.Path, From: gone[0], Old: file.Id, New: file.Id}
}

// changes visits the directories of two trees, where these differ, and yields the differences of their files in order.
func changes(s *store.Store, a, b int) iter.Seq[change] {
	return func(yield func(change) bool) {
		var path []byte
		waiting := places(s, 0, a, b) // the next one is the last
		for len(waiting) > 0 {
			next := waiting[len(waiting)-1]
			waiting = waiting[:len(waiting)-1]
			path = append(path[:next.start], next.name...)
			old, now := fileOf(next.before), fileOf(next.after)
			if old != now && !yield(change{string(path), old, now}) {
				return
			}
			path = append(path, '/')
			waiting = append(waiting, places(s, len(path), directoryOf(next.before), directoryOf(next.after))...)
		}
	}
}

// places returns those of the entries of two directories, in reverse order. Equal directories have none that is worth a visit: a directory that is in many places can have far more files below it than could be compared one by one.
func places(s *store.Store, start, a, b int) []place {
	if a == b {
		return nil
	}
	before, _ := s.Entries(a)
	after, _ := s.Entries(b)
	var found []place
	for len(before) > 0 || len(after) > 0 {
		next := place{start: start, name: max(lastName(before), lastName(after))}
		next.before, before = takeLast(before, next.name)
		next.after, after = takeLast(after, next.name)
		found = append(found, next)
	}
	return found
}

// lastName returns the name of the last entry, or the empty string, which is less than every name.
func lastName(entries []api.Entry) string {
	if len(entries) == 0 {
		return ""
	}
	return entries[len(entries)-1].Name
}

// takeLast returns the last entry and the others, if it has this name; or else the zero Entry and all.
func takeLast(entries []api.Entry, name string) (api.Entry, []api.Entry) {
	last := len(entries) - 1
	if lastName(entries) != name {
		return api.Entry{}, entries
	}
	return entries[last], entries[:last]
}

// fileOf returns the number of the file that the entry is, or nothing.
func fileOf(entry api.Entry) int {
	if entry.Dir {
		return nothing
	}
	return entry.Id
}

// directoryOf returns the number of the directory that the entry is, or nothing.
func directoryOf(entry api.Entry) int {
	if entry.Dir {
		return entry.Id
	}
	return nothing
}
