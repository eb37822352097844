package edits

import (
	"fmt"
	"maps"
	"math"
	"slices"
	"strings"
	"testing"

	"mainline/api"
	"mainline/codec"
	"mainline/paths"
	"mainline/store"
	"mainline/tree"
)

// The functions ...ByWords follow the chapter's words as literally as possible, with the files of a tree as a map from paths to texts.

type texts map[string]string

// filesByWords returns the files of a number of a store.
func filesByWords(s *store.Store, root int) texts {
	files := texts{}
	for _, file := range tree.Files(s, root) {
		files[file.Path], _ = s.Text(file.Id)
	}
	return files
}

// isDirectoryByWords tells whether a file lies below the path.
func isDirectoryByWords(files texts, path string) bool {
	for file := range files {
		if file != path && paths.Under(file, path) {
			return true
		}
	}
	return false
}

// isObstructedByWords tells whether a file lies at a proper beginning of the path's components.
func isObstructedByWords(files texts, path string) bool {
	names := strings.Split(path, "/")
	for n := range len(names) {
		if _, exists := files[strings.Join(names[:n], "/")]; exists {
			return true
		}
	}
	return false
}

func deleteErrorByWords(files texts, path string) api.Errno {
	_, exists := files[path]
	switch {
	case !paths.Valid(path):
		return api.ErrPath
	case isDirectoryByWords(files, path) || isObstructedByWords(files, path):
		return api.ErrKind
	case !exists:
		return api.ErrMissing
	}
	return api.OK
}

// applyOneByWords applies an edit to the files, if it is possible.
func applyOneByWords(files texts, edit api.Edit) api.Errno {
	switch edit.Kind {
	case 1:
		switch {
		case !paths.Valid(edit.Path):
			return api.ErrPath
		case len(edit.Text) > 65536:
			return api.ErrMany
		case isDirectoryByWords(files, edit.Path) || isObstructedByWords(files, edit.Path):
			return api.ErrKind
		}
		files[edit.Path] = edit.Text
	case 2:
		if e := deleteErrorByWords(files, edit.Path); e != api.OK {
			return e
		}
		delete(files, edit.Path)
	case 3:
		if e := deleteErrorByWords(files, edit.Path); e != api.OK {
			return e
		}
		if !paths.Valid(edit.To) {
			return api.ErrPath
		}
		if _, exists := files[edit.To]; exists {
			return api.ErrExists
		}
		text := files[edit.Path]
		delete(files, edit.Path)
		if isDirectoryByWords(files, edit.To) || isObstructedByWords(files, edit.To) {
			return api.ErrKind
		}
		files[edit.To] = text
	default:
		return api.ErrArg
	}
	return api.OK
}

// applyByWords returns the files that result, or an index and an error.
func applyByWords(files texts, l []api.Edit) (texts, int, api.Errno) {
	if len(l) > 1000 {
		return nil, 0, api.ErrMany
	}
	result := maps.Clone(files)
	for i, edit := range l {
		if e := applyOneByWords(result, edit); e != api.OK {
			return nil, i, e
		}
	}
	return result, 0, api.OK
}

func touchedByWords(l []api.Edit) []string {
	var touched []string
	for _, edit := range l {
		all := []string{edit.Path}
		if edit.Kind == 3 {
			all = append(all, edit.To)
		}
		for _, path := range all {
			if !slices.Contains(touched, path) {
				touched = append(touched, path)
			}
		}
	}
	slices.SortFunc(touched, func(a, b string) int {
		if paths.Less(a, b) {
			return -1
		}
		return 1
	})
	return touched
}

func betweenByWords(s *store.Store, a, b int) []api.Edit {
	if s == nil {
		return nil
	}
	var l []api.Edit
	for _, delta := range tree.Diff(s, a, b) {
		switch delta.Kind {
		case api.Removed:
			l = append(l, deleted(delta.Path))
		case api.Renamed:
			l = append(l, deleted(delta.From))
		}
	}
	for _, delta := range tree.Diff(s, a, b) {
		if delta.Kind != api.Removed {
			text, _ := s.Text(delta.New)
			l = append(l, written(delta.Path, text))
		}
	}
	return l
}

func encodeByWords(l []api.Edit) string {
	var all []string
	for _, edit := range l {
		all = append(all, codec.Pack([]string{codec.Number(codec.Signed(edit.Kind)), edit.Path, edit.To, edit.Text}))
	}
	return codec.Pack(all)
}

// decodeByWords takes s apart as far as it can, and looks whether it is the encoding of what it has found.
func decodeByWords(s string) ([]api.Edit, api.Errno) {
	all, e := codec.Unpack(s)
	if e != api.OK {
		return nil, e
	}
	var l []api.Edit
	for _, one := range all {
		parts, e := codec.Unpack(one)
		if e != api.OK {
			return nil, e
		}
		var edit api.Edit
		if len(parts) == 4 {
			n, _, _ := codec.ReadNumber(parts[0])
			edit = api.Edit{Kind: codec.Unsigned(n), Path: parts[1], To: parts[2], Text: parts[3]}
		}
		if encodeByWords([]api.Edit{edit}) != codec.Pack([]string{one}) {
			return nil, api.ErrForm
		}
		l = append(l, edit)
	}
	return l, api.OK
}

func written(path, text string) api.Edit {
	return api.Edit{Kind: api.Write, Path: path, Text: text}
}

func deleted(path string) api.Edit {
	return api.Edit{Kind: api.Delete, Path: path}
}

func moved(path, to string) api.Edit {
	return api.Edit{Kind: api.Move, Path: path, To: to}
}

// rootOf returns the tree with these files, which are put there one by one.
func rootOf(t *testing.T, s *store.Store, files texts) int {
	t.Helper()
	root, e := s.Tree(nil)
	for path, text := range files {
		id, blobError := s.Blob(text)
		root, e = tree.Put(s, root, path, id)
		if blobError != api.OK || e != api.OK {
			t.Fatalf("putting %q: errors %d, %d", path, blobError, e)
		}
	}
	return root
}

// example returns a store, and the root of the chapter's examples in it.
func example(t *testing.T) (*store.Store, int) {
	t.Helper()
	s := store.New()
	return s, rootOf(t, s, texts{"a/x": "1", "b": "2"})
}

// gives checks that Apply returns the tree with these files.
func gives(t *testing.T, s *store.Store, root int, l []api.Edit, want texts) int {
	t.Helper()
	next, i, e := Apply(s, root, l)
	if i != 0 || e != api.OK || next != rootOf(t, s, want) {
		t.Fatalf("Apply(%s): %d, %d, error %d, with the files %s; want %s", brief(l), next, i, e, brief(filesByWords(s, next)), brief(want))
	}
	return next
}

// fails checks that Apply returns an index and an error.
func fails(t *testing.T, s *store.Store, root int, l []api.Edit, index int, want api.Errno) {
	t.Helper()
	if next, i, e := Apply(s, root, l); next != 0 || i != index || e != want {
		t.Fatalf("Apply(%s): %d, %d, error %d; want 0, %d, error %d", brief(l), next, i, e, index, want)
	}
}

// noTrees returns numbers that are not trees of a store with many objects.
func noTrees(many int) []int {
	return []int{0, -1, -2, -many, many + 1, many + 2, math.MaxInt, math.MinInt, 1 << 32, 1<<32 + 5, -1 << 31}
}

// brief returns the beginning of a list as text.
func brief(list any) string {
	text := fmt.Sprintf("%q", list)
	return text[:min(len(text), 400)]
}
