package merge

import (
	"cmp"
	"fmt"
	"math"
	"slices"
	"strconv"
	"strings"
	"testing"

	"mainline/api"
	"mainline/lines"
	"mainline/paths"
	"mainline/store"
	"mainline/tree"
)

// The functions ...ByWords follow the chapter's words as literally as possible.

// contentsByWords returns the number of the contents of a file, if the root has it.
func contentsByWords(s *store.Store, root int, path string) (int, bool) {
	for _, file := range tree.Files(s, root) {
		if file.Path == path {
			return file.Id, true
		}
	}
	return 0, false
}

func followByWords(s *store.Store, base, other int, path string) (string, bool) {
	if _, exists := contentsByWords(s, base, path); !exists {
		return "", false
	}
	if _, exists := contentsByWords(s, other, path); exists {
		return path, true
	}
	for _, delta := range tree.Diff(s, base, other) {
		if delta.Kind == 4 && delta.From == path {
			return delta.Path, true
		}
	}
	return "", false
}

// byWords collects what the promises say of a merge.
type byWords struct {
	store             *store.Store
	base, left, right int
	outcomes          []api.File
	conflicts         map[api.Conflict]bool
	reasons           map[string]int // how often which words had an effect
}

func (w *byWords) conflict(reason, path string, from, to int) {
	w.reasons[reason]++
	w.conflicts[api.Conflict{Path: path, From: from, To: to}] = true
}

// isKept tells whether a file of base goes to its own path of a tree, with its contents there.
func (w *byWords) isKept(b api.File, root int, path string) bool {
	id, _ := contentsByWords(w.store, root, path)
	return path == b.Path && id == b.Id
}

func (w *byWords) addFileOfBase(b api.File) {
	l, inLeft := followByWords(w.store, w.base, w.left, b.Path)
	r, inRight := followByWords(w.store, w.base, w.right, b.Path)
	if !inLeft && !inRight {
		w.reasons["gone in both"]++
		return
	}
	if !inLeft || !inRight {
		if inRight && w.isKept(b, w.right, r) || inLeft && w.isKept(b, w.left, l) {
			w.reasons["gone in one"]++
		} else {
			w.conflict("gone in one, not as it was in the other", b.Path, 0, 0)
		}
		return
	}
	path, agreed := w.path(b, l, r)
	id, alsoAgreed := w.contents(b, l, r)
	if agreed && alsoAgreed {
		w.outcomes = append(w.outcomes, api.File{Path: path, Id: id})
	}
}

func (w *byWords) path(b api.File, l, r string) (string, bool) {
	switch {
	case l == r:
		return l, true
	case l == b.Path:
		w.reasons["renamed"]++
		return r, true
	case r == b.Path:
		w.reasons["renamed"]++
		return l, true
	}
	w.conflict("renamed differently", b.Path, 0, 0)
	return "", false
}

func (w *byWords) contents(b api.File, l, r string) (int, bool) {
	left, _ := contentsByWords(w.store, w.left, l)
	right, _ := contentsByWords(w.store, w.right, r)
	switch {
	case left == right:
		return left, true
	case left == b.Id:
		return right, true
	case right == b.Id:
		return left, true
	}
	baseText, _ := w.store.Text(b.Id)
	leftText, _ := w.store.Text(left)
	rightText, _ := w.store.Text(right)
	merged, spans := lines.Merge(baseText, leftText, rightText)
	for _, span := range spans {
		w.conflict("lines", b.Path, span.From, span.To)
	}
	if len(spans) > 0 {
		return 0, false
	}
	if len(merged) > 65536 {
		w.conflict("long", b.Path, 0, 0)
		return 0, false
	}
	w.reasons["merged"]++
	id, _ := w.store.Blob(merged)
	return id, true
}

// addNewFiles adds the files of a tree to whose path no file of base goes.
func (w *byWords) addNewFiles(root int) {
	for _, file := range tree.Files(w.store, root) {
		isNew := true
		for _, b := range tree.Files(w.store, w.base) {
			if path, remains := followByWords(w.store, w.base, root, b.Path); remains && path == file.Path {
				isNew = false
			}
		}
		if isNew {
			w.outcomes = append(w.outcomes, file)
		}
	}
}

// compareOutcomes looks at all pairs of outcomes.
func (w *byWords) compareOutcomes() {
	for _, a := range w.outcomes {
		for _, b := range w.outcomes {
			switch {
			case a.Path == b.Path && a.Id != b.Id:
				w.conflict("together", a.Path, 0, 0)
			case a.Path != b.Path && paths.Under(a.Path, b.Path):
				w.conflict("below", a.Path, 0, 0)
			}
		}
	}
}

func comparedByWords(a, b api.Conflict) int {
	return cmp.Or(slices.Compare(strings.Split(a.Path, "/"), strings.Split(b.Path, "/")), a.From-b.From, a.To-b.To)
}

// treesByWords returns what Trees has to return, and the words that had an effect.
func treesByWords(s *store.Store, base, left, right int) (int, []api.Conflict, map[string]int) {
	nowhere := []api.Conflict{{}}
	if s == nil {
		return 0, nowhere, nil
	}
	w := &byWords{store: s, base: base, left: left, right: right, conflicts: map[api.Conflict]bool{}, reasons: map[string]int{}}
	for _, b := range tree.Files(s, base) {
		w.addFileOfBase(b)
	}
	w.addNewFiles(left)
	w.addNewFiles(right)
	w.compareOutcomes()
	var conflicts []api.Conflict
	for conflict := range w.conflicts {
		conflicts = append(conflicts, conflict)
	}
	if len(conflicts) > 0 {
		slices.SortFunc(conflicts, comparedByWords)
		return 0, conflicts, w.reasons
	}
	var files []api.File
	for _, file := range w.outcomes {
		if !slices.Contains(files, file) {
			files = append(files, file)
		}
	}
	root, e := tree.Build(s, files)
	switch e {
	case api.OK:
		w.reasons["merges"]++
		return root, nil, w.reasons
	case api.ErrMany:
		return 0, nowhere, w.reasons
	}
	panic(e)
}

// linesOf turns words into lines.
func linesOf(words string) string {
	text := ""
	for _, word := range strings.Fields(words) {
		text += word + "\n"
	}
	return text
}

// rootOf returns the tree that is written as in "a: x y; b/c: z", with the lines of its files as words.
func rootOf(t *testing.T, s *store.Store, written string) int {
	t.Helper()
	root, e := s.Tree(nil)
	for _, file := range strings.Split(written, ";") {
		path, words, isFile := strings.Cut(file, ":")
		if !isFile {
			continue
		}
		id, _ := s.Blob(linesOf(words))
		if root, e = tree.Put(s, root, strings.TrimSpace(path), id); e != api.OK {
			t.Fatalf("putting %q: error %d", path, e)
		}
	}
	return root
}

// conflictsOf returns the conflicts that are written as in "a 0 1; b/c 0 0".
func conflictsOf(written string) []api.Conflict {
	var conflicts []api.Conflict
	for _, one := range strings.Split(written, ";") {
		parts := strings.Fields(one)
		from, _ := strconv.Atoi(parts[1])
		to, _ := strconv.Atoi(parts[2])
		conflicts = append(conflicts, api.Conflict{Path: parts[0], From: from, To: to})
	}
	return conflicts
}

// returns checks what Trees returns, for both orders of left and right, and that nothing that was in the store has become different.
func returns(t *testing.T, s *store.Store, base, left, right, want int, conflicts []api.Conflict) {
	t.Helper()
	many := s.Many()
	before := firstObjects(s, many)
	for _, sides := range [][]int{{left, right}, {right, left}} {
		root, got := Trees(s, base, sides[0], sides[1])
		if root != want || !slices.Equal(got, conflicts) {
			t.Fatalf("Trees(%d, %d, %d) of %s, %s and %s: %d, %s, with the files %s; want %d, %s, with the files %s", base, sides[0], sides[1],
				shown(s, base), shown(s, sides[0]), shown(s, sides[1]), root, brief(got), shown(s, root), want, brief(conflicts), shown(s, want))
		}
	}
	if !slices.Equal(firstObjects(s, many), before) {
		t.Fatalf("Trees(%d, %d, %d) changes what was in the store", base, left, right)
	}
}

// merges checks that the merge of trees that are written is one that is written.
func merges(t *testing.T, base, left, right, want string) {
	t.Helper()
	s := store.New()
	returns(t, s, rootOf(t, s, base), rootOf(t, s, left), rootOf(t, s, right), rootOf(t, s, want), nil)
}

// clashes checks that the merge of trees that are written has conflicts that are written.
func clashes(t *testing.T, base, left, right, conflicts string) {
	t.Helper()
	s := store.New()
	returns(t, s, rootOf(t, s, base), rootOf(t, s, left), rootOf(t, s, right), 0, conflictsOf(conflicts))
}

// firstObjects returns the first objects of a store, of which there are many, as text; but not too many of them.
func firstObjects(s *store.Store, many int) []string {
	var objects []string
	for id := 1; id <= min(many, 500); id++ {
		text, isText := s.Text(id)
		entries, isTree := s.Entries(id)
		objects = append(objects, fmt.Sprintf("%q %v %v %v", text, isText, entries, isTree))
	}
	return objects
}

// shown returns the files of a root, if there are few of them.
func shown(s *store.Store, root int) string {
	if countFiles(s, root, map[int]int{}) > 100 {
		return "many"
	}
	files := ""
	for _, file := range tree.Files(s, root) {
		text, _ := s.Text(file.Id)
		files += fmt.Sprintf("%s: %q; ", file.Path, text)
	}
	return brief(files)
}

// noTrees returns numbers that are not trees of a store with many objects.
func noTrees(many int) []int {
	return []int{0, -1, -2, -many, many + 1, many + 2, math.MaxInt, math.MinInt, 1 << 32, 1<<32 + 5, -1 << 31}
}

// brief returns the beginning of a value as text.
func brief(value any) string {
	text := fmt.Sprint(value)
	return text[:min(len(text), 600)]
}
