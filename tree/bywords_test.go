package tree

import (
	"cmp"
	"fmt"
	"math"
	"slices"
	"strings"
	"testing"

	"mainline/api"
	"mainline/paths"
	"mainline/store"
)

// The functions ...ByWords follow the chapter's words as literally as possible, with the files of a tree as a map from paths to the numbers of contents.

func filesByWords(s *store.Store, root int) map[string]int {
	files := map[string]int{}
	entries, _ := s.Entries(root)
	for _, entry := range entries {
		if !entry.Dir {
			files[entry.Name] = entry.Id
			continue
		}
		for path, id := range filesByWords(s, entry.Id) {
			files[entry.Name+"/"+path] = id
		}
	}
	return files
}

func comparedByWords(a, b string) int {
	return slices.Compare(strings.Split(a, "/"), strings.Split(b, "/"))
}

func listByWords(files map[string]int) []api.File {
	var list []api.File
	for path, id := range files {
		list = append(list, api.File{Path: path, Id: id})
	}
	slices.SortFunc(list, func(a, b api.File) int { return comparedByWords(a.Path, b.Path) })
	return list
}

func isBelow(path, dir string) bool {
	return dir == "" || strings.HasPrefix(path, dir+"/")
}

// entriesByWords returns the entries of a directory, of which trees has the numbers of those below it.
func entriesByWords(files map[string]int, dir string, trees map[string]int) []api.Entry {
	byName := map[string]api.Entry{}
	for path, id := range files {
		if !isBelow(path, dir) {
			continue
		}
		inside := strings.TrimPrefix(path[len(dir):], "/")
		name, _, more := strings.Cut(inside, "/")
		if more {
			below := strings.TrimPrefix(dir+"/"+name, "/")
			byName[name] = api.Entry{Name: name, Dir: true, Id: trees[below]}
		} else {
			byName[name] = api.Entry{Name: name, Id: id}
		}
	}
	var entries []api.Entry
	for _, entry := range byName {
		entries = append(entries, entry)
	}
	slices.SortFunc(entries, func(a, b api.Entry) int { return cmp.Compare(a.Name, b.Name) })
	return entries
}

// directoriesByWords returns all directories of the files but the root, in order.
func directoriesByWords(files map[string]int) []string {
	var dirs []string
	for path := range files {
		for i := range path {
			if path[i] == '/' {
				dirs = append(dirs, path[:i])
			}
		}
	}
	slices.SortFunc(dirs, comparedByWords)
	return slices.Compact(dirs)
}

// addByWords adds all trees of the files: again and again the first directory below which none is left, and the root at last.
func addByWords(s *store.Store, files map[string]int) int {
	trees := map[string]int{}
	left := directoriesByWords(files)
	for len(left) > 0 {
		next := slices.IndexFunc(left, func(dir string) bool {
			return !slices.ContainsFunc(left, func(other string) bool { return isBelow(other, dir) })
		})
		dir := left[next]
		trees[dir], _ = s.Tree(entriesByWords(files, dir, trees))
		left = slices.Delete(left, next, next+1)
	}
	root, _ := s.Tree(entriesByWords(files, "", trees))
	return root
}

func getByWords(s *store.Store, root int, path string) (api.Entry, api.Errno) {
	if !paths.Valid(path) {
		return api.Entry{}, api.ErrPath
	}
	names := strings.Split(path, "/")
	dir := root
	for i, name := range names {
		entries, _ := s.Entries(dir)
		place := slices.IndexFunc(entries, func(entry api.Entry) bool { return entry.Name == name })
		switch {
		case place < 0:
			return api.Entry{}, api.ErrMissing
		case i == len(names)-1:
			return entries[place], api.OK
		case !entries[place].Dir:
			return api.Entry{}, api.ErrKind
		}
		dir = entries[place].Id
	}
	panic("a path without components")
}

func buildByWords(s *store.Store, files []api.File) (int, api.Errno) {
	if s == nil {
		return 0, api.ErrArg
	}
	if len(files) > 100000 {
		return 0, api.ErrMany
	}
	earlier := map[string]int{}
	for _, file := range files {
		_, isText := s.Text(file.Id)
		_, twice := earlier[file.Path]
		if !paths.Valid(file.Path) {
			return 0, api.ErrPath
		}
		if !isText {
			return 0, api.ErrArg
		}
		if twice {
			return 0, api.ErrTwice
		}
		for path := range earlier {
			if isBelow(file.Path, path) || isBelow(path, file.Path) {
				return 0, api.ErrKind
			}
		}
		earlier[file.Path] = file.Id
	}
	return addByWords(s, earlier), api.OK
}

func putByWords(s *store.Store, root int, path string, id int) (int, api.Errno) {
	if s == nil {
		return 0, api.ErrArg
	}
	if !paths.Valid(path) {
		return 0, api.ErrPath
	}
	if _, isText := s.Text(id); !isText {
		return 0, api.ErrArg
	}
	files := filesByWords(s, root)
	for other := range files {
		if isBelow(path, other) || isBelow(other, path) {
			return 0, api.ErrKind
		}
	}
	files[path] = id
	return addByWords(s, files), api.OK
}

func removeByWords(s *store.Store, root int, path string) (int, api.Errno) {
	if s == nil {
		return 0, api.ErrArg
	}
	entry, e := getByWords(s, root, path)
	if e != api.OK {
		return 0, e
	}
	if entry.Dir {
		return 0, api.ErrKind
	}
	files := filesByWords(s, root)
	delete(files, path)
	return addByWords(s, files), api.OK
}

func diffByWords(s *store.Store, a, b int) []api.Delta {
	old, now := filesByWords(s, a), filesByWords(s, b)
	var deltas []api.Delta
	var removed, added []api.File
	for _, file := range listByWords(old) {
		id, stays := now[file.Path]
		switch {
		case !stays:
			removed = append(removed, file)
		case id != file.Id:
			deltas = append(deltas, api.Delta{Kind: 3, Path: file.Path, Old: file.Id, New: id})
		}
	}
	for _, file := range listByWords(now) {
		if _, stays := old[file.Path]; !stays {
			added = append(added, file)
		}
	}
	for _, file := range added {
		first := slices.IndexFunc(removed, func(other api.File) bool { return other.Id == file.Id })
		if first < 0 {
			deltas = append(deltas, api.Delta{Kind: 1, Path: file.Path, New: file.Id})
			continue
		}
		deltas = append(deltas, api.Delta{Kind: 4, Path: file.Path, From: removed[first].Path, Old: file.Id, New: file.Id})
		removed = slices.Delete(removed, first, first+1)
	}
	for _, file := range removed {
		deltas = append(deltas, api.Delta{Kind: 2, Path: file.Path, Old: file.Id})
	}
	slices.SortFunc(deltas, func(a, b api.Delta) int { return comparedByWords(a.Path, b.Path) })
	return deltas
}

// sameObjects checks that two stores have the same objects with the same numbers.
func sameObjects(t *testing.T, s, want *store.Store) {
	t.Helper()
	if s.Many() != want.Many() {
		t.Fatalf("%d objects, not %d", s.Many(), want.Many())
	}
	for id := 1; id <= want.Many(); id++ {
		text, isText := s.Text(id)
		wantText, wantIsText := want.Text(id)
		entries, _ := s.Entries(id)
		wantEntries, _ := want.Entries(id)
		if text != wantText || isText != wantIsText || !slices.Equal(entries, wantEntries) {
			t.Fatalf("object %d: %q, %v; want %q, %v", id, text, entries, wantText, wantEntries)
		}
	}
}

// withTexts returns a store with the blobs 1, 2, and so on.
func withTexts(t *testing.T, texts ...string) *store.Store {
	t.Helper()
	s := store.New()
	for i, text := range texts {
		if id, e := s.Blob(text); id != i+1 || e != api.OK {
			t.Fatalf("Blob(%q): %d, error %d", text, id, e)
		}
	}
	return s
}

// file returns a file, which is written as its path and the number of its contents.
func file(path string, id int) api.File {
	return api.File{Path: path, Id: id}
}

func isRoot(t *testing.T, call string, root int, e api.Errno, want int) {
	t.Helper()
	if root != want || e != api.OK {
		t.Fatalf("%s: %d, error %d; want %d", call, root, e, want)
	}
}

// build builds a tree that is possible.
func build(t *testing.T, s *store.Store, files ...api.File) int {
	t.Helper()
	root, e := Build(s, files)
	if e != api.OK {
		t.Fatalf("Build(%s): error %d", brief(files), e)
	}
	return root
}

func hasFiles(t *testing.T, s *store.Store, root int, want ...api.File) {
	t.Helper()
	if files := Files(s, root); !slices.Equal(files, want) {
		t.Fatalf("Files(%d): %s; want %s", root, brief(files), brief(want))
	}
}

func hasEntries(t *testing.T, s *store.Store, id int, want ...api.Entry) {
	t.Helper()
	if entries, ok := s.Entries(id); !ok || !slices.Equal(entries, want) {
		t.Fatalf("Entries(%d): %v, %v; want %v", id, entries, ok, want)
	}
}

// fails checks that a call returns an error, and that nothing has come into a store with many objects.
func fails(t *testing.T, call string, root int, e, want api.Errno, s *store.Store, many int) {
	t.Helper()
	if root != 0 || e != want || s.Many() != many {
		t.Fatalf("%s: %d, error %d, then %d objects of %d; want 0, error %d", call, root, e, s.Many(), many, want)
	}
}

// example returns the store and the root (5) of the chapter's examples.
func example(t *testing.T) (*store.Store, int) {
	t.Helper()
	s := withTexts(t, "x", "y")
	root, e := Build(s, []api.File{file("b/c", 1), file("a", 2), file("b/a/d", 2)})
	isRoot(t, "Build", root, e, 5)
	return s, root
}

// noTrees returns numbers that are not trees of a store with many objects, the first of which is a text.
func noTrees(many int) []int {
	return []int{1, 0, -1, -2, -many, many + 1, many + 2, math.MaxInt, math.MinInt, 1 << 32, 1<<32 + 5, -1 << 31}
}

// deepTree returns the number of a tree with the file f below many directories d.
func deepTree(t *testing.T, s *store.Store, levels int) int {
	t.Helper()
	root, e := s.Tree([]api.Entry{{Name: "f", Id: 1}})
	for range levels {
		root, _ = s.Tree([]api.Entry{{Name: "d", Dir: true, Id: root}})
	}
	if e != api.OK || root == 0 {
		t.Fatalf("a tree of %d levels: %d, error %d", levels, root, e)
	}
	return root
}

// wideTree returns the number of a tree with 10 entries, each of which is the same tree with 10 entries, and so on for 20 levels: 10^20 files.
func wideTree(t *testing.T, s *store.Store) int {
	t.Helper()
	root := 1
	for level := range 20 {
		var entries []api.Entry
		for _, name := range strings.Split("abcdefghij", "") {
			entries = append(entries, api.Entry{Name: name, Dir: level > 0, Id: root})
		}
		next, e := s.Tree(entries)
		if e != api.OK {
			t.Fatalf("level %d: error %d", level, e)
		}
		root = next
	}
	return root
}

// backward returns the files in the reverse order.
func backward(files []api.File) []api.File {
	reversed := slices.Clone(files)
	slices.Reverse(reversed)
	return reversed
}

// brief returns the beginning of a list as text.
func brief(list any) string {
	text := fmt.Sprint(list)
	return text[:min(len(text), 400)]
}
