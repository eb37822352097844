package merge

import (
	"strings"
	"testing"

	"mainline/api"
	"mainline/samples"
	"mainline/store"
	"mainline/tree"
)

// goes checks where the file of base goes; the empty string says that it is gone, or no file.
func goes(t *testing.T, s *store.Store, base, other int, path, want string) {
	t.Helper()
	if got, remains := Follow(s, base, other, path); got != want || remains != (want != "") {
		t.Fatalf("Follow(%s, %s, %q): %q, %v; want %q", shown(s, base), shown(s, other), path, got, remains, want)
	}
}

func TestP7_1Follow(t *testing.T) {
	for _, c := range []struct{ base, other, path, want string }{
		{"a: x", "a: x", "a", "a"},
		{"a: x", "a: y", "a", "a"},
		{"a/b/c: x", "a/b/c: y", "a/b/c", "a/b/c"},
		{"a: x", "b: x", "a", "b"},
		{"a: x", "a/b: x", "a", "a/b"},
		{"a/b: x", "a: x", "a/b", "a"},
		{"a: x", "", "a", ""},
		{"a: x", "b: y", "a", ""},        // other contents
		{"a: x", "a: y; b: x", "a", "a"}, // its own path, although another one has its contents
		{"a: x; b: x", "b: x", "a", ""},  // b is that of base
		{"a: x; b: x", "b: x", "b", "b"},
		{"a: x; b: y", "b: x", "a", ""},  // b was changed
		{"a: x; b: x", "c: x", "a", "c"}, // the first one
		{"a: x; b: x", "c: x", "b", ""},
		{"a: x", "b: x; c: x", "a", "b"}, // to the first one
		{"b: x; d: x", "a: x; c: x", "d", "c"},
		{"a: x; b: y", "c: y; d: x", "a", "d"},
		{"a: x; b: y", "c: y; d: x", "b", "c"},
		{"a: x", "a: x; b: x", "b", ""}, // only other has it
		{"a: x", "b: x", "b", ""},
		{"a/b: x", "a/b: x", "a", ""}, // a directory
		{"a: x", "a: x", "a/b", ""},   // below a file
		{"a: x", "a: x", "", ""},
		{"a: x", "a: x", "a/", ""},
		{"a: x", "a: x", "/a", ""},
		{"a: x", "a: x", "./a", ""},
		{"a/b: x", "a/b: x", "a//b", ""},
		{"a/b: x", "a/b: x", "a/../a/b", ""},
		{"", "a: x", "a", ""},
		{"", "", "a", ""},
	} {
		s := store.New()
		goes(t, s, rootOf(t, s, c.base), rootOf(t, s, c.other), c.path, c.want)
	}
}

func TestP7_1FollowAddsNothing(t *testing.T) {
	s := store.New()
	base, other := rootOf(t, s, "a: x; b: y"), rootOf(t, s, "a: z; c: y")
	many := s.Many()
	goes(t, s, base, other, "a", "a")
	goes(t, s, base, other, "b", "c")
	goes(t, s, base, other, "c", "")
	if s.Many() != many {
		t.Errorf("%d objects instead of %d", s.Many(), many)
	}
}

func TestP7_1FollowWithoutTrees(t *testing.T) {
	s := store.New()
	root := rootOf(t, s, "a: x; b: y")
	blob, _ := s.Blob("x\n")
	for _, none := range append(noTrees(s.Many()), blob) {
		goes(t, s, none, root, "a", "")
		goes(t, s, root, none, "a", "")
		goes(t, s, none, none, "a", "")
		for _, of := range []*store.Store{nil, {}, store.New()} {
			goes(t, of, none, root, "a", "")
			goes(t, of, root, root, "a", "")
			goes(t, of, root, none, "", "")
		}
	}
	goes(t, s, root, root, "a", "a")
}

func TestP7_2Examples(t *testing.T) {
	merges(t, "a: x y z", "a: X y z", "a: x y Z", "a: X y Z")
	merges(t, "a: x y z", "b: x y z", "a: x y Z", "b: x y Z")
	clashes(t, "a: x", "a: y", "", "a 0 0")
	clashes(t, "a: x y", "a: X y", "a: Y y", "a 0 1")
	clashes(t, "", "a: x", "a/b: x", "a/b 0 0")
	// The example of the document: a new name and new contents.
	merges(t, "d/a: x y; b: y", "d/a: x z; b: y", "e/a: x y; b: y", "e/a: x z; b: y")
}

// TestP7_2FilesThatAreGone has the file a of base, and k, which stays.
func TestP7_2FilesThatAreGone(t *testing.T) {
	merges(t, "a: x; k: k", "k: k", "k: k", "k: k")
	merges(t, "a: x; k: k", "k: k", "a: x; k: k", "k: k")
	merges(t, "a: x", "", "a: x", "")
	merges(t, "a: x", "", "", "")
	clashes(t, "a: x; k: k", "k: k", "a: y; k: k", "a 0 0")
	clashes(t, "a: x y; k: k", "k: k", "a: x y z; k: k", "a 0 0")
	clashes(t, "a: x; k: k", "k: k", "b: x; k: k", "a 0 0")
	clashes(t, "a: x; k: k", "k: k", "a/b: x; k: k", "a 0 0")
	// A new file with the same contents: the file is renamed, not gone.
	merges(t, "a: x; k: k", "b: x; k: k", "a: x; k: k", "b: x; k: k")
	// A new file with the contents of one that is gone in the other tree is no other path of it.
	merges(t, "a: x; k: k", "k: k", "a: x; b: x; k: k", "b: x; k: k")
	merges(t, "a: x; k: k", "n: y; k: k", "a: x; m: y; k: k", "m: y; n: y; k: k")
	// Gone in one with others around it that are renamed: the k-th one of equal contents.
	clashes(t, "a: x; b: x", "c: x", "a: x; b: y", "b 0 0")
	merges(t, "a: x; b: x", "c: x", "a: y; b: x", "c: y")
	merges(t, "a: x; b: x", "c: x", "a: x; b: x", "c: x")
	clashes(t, "a: x; b: x", "c: x", "d: x", "a 0 0")
}

func TestP7_2PathsOfRenamedFiles(t *testing.T) {
	merges(t, "a: x", "b: x", "b: x", "b: x")
	merges(t, "a: x", "b/c: x", "a: x", "b/c: x")
	merges(t, "a: x", "a/b: x", "a: x", "a/b: x")
	merges(t, "a/b: x", "a: x", "a/b: x", "a: x")
	merges(t, "a/b: x; a/c: y", "a: x", "a/b: x; a/c: y", "a: x")
	clashes(t, "a: x", "b: x", "c: x", "a 0 0")
	clashes(t, "a: x", "b: x", "a/a: x", "a 0 0")
	clashes(t, "a: x; k: k", "b: x; k: l", "c: x; k: m", "a 0 0; k 0 1")
	merges(t, "a: x; b: y", "c: x; b: y", "a: x; d: y", "c: x; d: y")
	merges(t, "a: x; b: y", "a: y; b: x", "a: x; b: y", "a: y; b: x") // exchanged contents are no renaming
	merges(t, "a/x: 1; a/y: 2", "b/x: 1; b/y: 2", "a/x: 1; a/y: 3", "b/x: 1; b/y: 3")
	// Equal contents: which file is renamed to which path depends on the order of paths.
	merges(t, "a: x; b: x", "c: x; d: x", "a: y; b: x", "c: y; d: x")
	merges(t, "a: x; b: x", "c: x; d: x", "a: x; b: y", "c: x; d: y")
	merges(t, "b: x; d: x", "a: x; c: x", "b: x; d: y", "a: x; c: y")
	clashes(t, "a: x; b: x", "c: x; d: x", "d: x; e: x", "a 0 0; b 0 0")
	merges(t, "a: x; b: x", "c: x; d: x", "c: x; d: x; e: x", "c: x; d: x; e: x")
}

func TestP7_2ContentsOfRenamedFiles(t *testing.T) {
	merges(t, "a: x", "b: x", "a: y", "b: y")
	merges(t, "a: x", "b: x", "a:", "b:")
	merges(t, "a:", "b:", "a: y", "b: y")
	merges(t, "d/a: x; e: y", "f/a: x; e: y", "d/a: z; e: z", "f/a: z; e: z")
	// Changed and moved at once: gone, and new.
	clashes(t, "a: x", "b: y", "a: z", "a 0 0")
	merges(t, "a: x", "b: y", "a: x", "b: y")
	merges(t, "a: x", "b: y", "b: y", "b: y")
	// Both rename, so that neither changes the contents.
	merges(t, "a: x; k: k", "b: x; k: l", "b: x; k: k", "b: x; k: l")
}

func TestP7_2Contents(t *testing.T) {
	merges(t, "a: x", "a: y", "a: x", "a: y")
	merges(t, "a: x", "a: y", "a: y", "a: y")
	merges(t, "a: x", "a:", "a: x", "a:")
	merges(t, "a: x", "a:", "a:", "a:")
	merges(t, "a: 1 2 3 4 5", "a: 1 2 2 3 4 5", "a: 1 2 3 4", "a: 1 2 2 3 4")
	merges(t, "a: 1 2 3 4 5", "a: 2 3 4 5", "a: 1 2 3 4 5 6", "a: 2 3 4 5 6")
	merges(t, "a: 1 2 3 4 5", "a: 0 2 3 4 5", "a: 0 2 3 4 6", "a: 0 2 3 4 6") // the same change in both
	merges(t, "a: 1 2 3; b: 1 2 3; c: 1 2 3", "a: 0 2 3; b: 1 2 3; c: 1 2 0", "a: 1 2 0; b: 1 0 3; c: 0 2 3", "a: 0 2 0; b: 1 0 3; c: 0 2 0")
	merges(t, "a: 1 2 3 4; b: 5", "a: 1 3 4; b: 5", "a: 1 2 3; b: 5", "a: 1 3; b: 5")
}

func TestP7_2SpansOfTexts(t *testing.T) {
	clashes(t, "a: x", "a: y", "a: z", "a 0 1")
	clashes(t, "a:", "a: y", "a: z", "a 0 0")
	clashes(t, "a: x", "a:", "a: y", "a 0 1")
	clashes(t, "a: x y", "a: x a y", "a: x b y", "a 1 1")
	clashes(t, "a: x y z", "a: x Y z", "a: x y Z", "a 1 3")
	clashes(t, "a: 1 2 3 4 5 6 7", "a: 0 2 3 0 5 6 0", "a: 9 2 3 9 5 6 9", "a 0 1; a 3 4; a 6 7")
	clashes(t, "a: 1 2 3 4 5 6 7", "a: 0 2 3 0 5 6 0", "a: 9 2 3 4 5 6 9", "a 0 1; a 6 7")
	clashes(t, "a: 1 2 3 4 5 6 7", "a: 0 2 3 0 5 6 0", "a: 1 2 3 4 5 6 9", "a 6 7")
	clashes(t, "d/b: 1 2 3; a: x", "d/b: 0 2 0; a: y", "d/b: 9 2 9; a: z", "a 0 1; d/b 0 1; d/b 2 3")
	clashes(t, "a: x; b: y", "a: y; b: z", "a: z; b: y", "a 0 1")
	// A long line: the numbers of the lines, not of the bytes.
	clashes(t, "a: "+strings.Repeat("x", 5000)+" y", "a: "+strings.Repeat("x", 5000)+" z", "a: "+strings.Repeat("x", 5000)+" w", "a 1 2")
}

// TestP7_2LongTexts has sides that add as many bytes that the merged text has exactly MaxText bytes, or one more.
func TestP7_2LongTexts(t *testing.T) {
	for _, c := range []struct {
		left, right int
		fits        bool
	}{{32767, 32767, true}, {32767, 32768, false}, {1, 65533, true}, {1, 65534, false}, {65534, 65534, false}, {60000, 60000, false}} {
		s := store.New()
		root := func(text string) int {
			id, e := s.Blob(text)
			other, _ := s.Blob("other")
			root, _ := tree.Build(s, []api.File{{Path: "d/f", Id: id}, {Path: "k", Id: other}})
			if e != api.OK {
				t.Fatalf("a text of %d bytes: error %d", len(text), e)
			}
			return root
		}
		left, right := strings.Repeat("l", c.left-1)+"\n", strings.Repeat("r", c.right)
		base, first, second := root("b\n"), root(left+"b\n"), root("b\n"+right)
		if c.fits {
			returns(t, s, base, first, second, root(left+"b\n"+right), nil)
		} else {
			returns(t, s, base, first, second, 0, []api.Conflict{{Path: "d/f"}})
		}
	}
}

func TestP7_2NewFiles(t *testing.T) {
	merges(t, "", "a: x", "", "a: x")
	merges(t, "", "a: x", "b: y", "a: x; b: y")
	merges(t, "", "a: x", "b: x", "a: x; b: x")
	merges(t, "", "a: x", "a: x", "a: x")
	merges(t, "a: x", "a: x; b: x", "a: y", "a: y; b: x") // a copy is new, not renamed
	merges(t, "a: x", "b: x; c: x", "a: y", "b: y; c: x") // only the first one is a
	merges(t, "k: k", "k: k; d/a: x; d/b: y", "k: k; d/c: z; e/f/g: x", "k: k; d/a: x; d/b: y; d/c: z; e/f/g: x")
	merges(t, "k: k", "d/a: x; d/k: k", "k: l; d/b: y", "d/a: x; d/k: l; d/b: y")
}

// alter returns a root that has been changed at random, as its author might have done.
func alter(s *store.Store, root int, below func(int) int, word func(int) string) int {
	for range below(4) {
		files := tree.Files(s, root)
		to := strings.Join(strings.Split(word(2)+"a", ""), "/")
		if len(files) == 0 || below(4) == 0 {
			id, _ := s.Blob(linesOf(strings.Join(strings.Split(word(9), ""), " ")))
			root = put(s, root, to, id)
			continue
		}
		file := files[below(len(files))]
		text, _ := s.Text(file.Id)
		switch below(8) {
		case 0:
			root, _ = tree.Remove(s, root, file.Path)
		case 1, 2, 3:
			without, _ := tree.Remove(s, root, file.Path)
			if moved := put(s, without, to, file.Id); moved != without {
				root = moved
			}
		default:
			words := strings.Fields(text)
			if len(words) == 0 {
				words = []string{"a"}
			}
			words[below(len(words))] = word(2)
			id, _ := s.Blob(linesOf(strings.Join(words, " ")))
			root = put(s, root, file.Path, id)
		}
	}
	return root
}

// put returns the root with a file, if that is possible.
func put(s *store.Store, root int, path string, id int) int {
	if next, e := tree.Put(s, root, path, id); e == api.OK {
		return next
	}
	return root
}

// randomRoots returns a base, two sides of it, and their store.
func randomRoots(t *testing.T, seed uint32) (*store.Store, int, int, int) {
	s := store.New()
	below, word := samples.Below(seed), samples.Words(seed+1<<20, "abcd")
	base := rootOf(t, s, "")
	for range 3 {
		base = alter(s, base, below, word)
	}
	left := alter(s, base, below, word)
	right := alter(s, []int{base, base, base, left}[below(4)], below, word)
	return s, base, left, right
}

func TestP7_1RandomFilesFollowTheWords(t *testing.T) {
	found := map[string]int{}
	for seed := range uint32(2000) {
		s, base, left, right := randomRoots(t, seed)
		roots := []int{base, left, right, 1}
		for _, from := range roots {
			for _, to := range roots {
				for _, file := range append(tree.Files(s, left), append(tree.Files(s, base), api.File{Path: "a/a"})...) {
					want, remains := followByWords(s, from, to, file.Path)
					goes(t, s, from, to, file.Path, want)
					switch {
					case !remains:
						found["none"]++
					case want != file.Path:
						found["renamed"]++
					default:
						found["same"]++
					}
				}
			}
		}
	}
	for _, kind := range []string{"none", "renamed", "same"} {
		if found[kind] < 1000 {
			t.Errorf("only %d files that go to %s", found[kind], kind)
		}
	}
}

func TestP7_2RandomTreesFollowTheWords(t *testing.T) {
	found := map[string]int{}
	for seed := range uint32(12000) {
		s, base, left, right := randomRoots(t, seed)
		want, conflicts, reasons := treesByWords(s, base, left, right)
		returns(t, s, base, left, right, want, conflicts)
		for reason := range reasons {
			found[reason]++
		}
	}
	for _, reason := range []string{"gone in both", "gone in one", "gone in one, not as it was in the other", "renamed", "renamed differently", "lines", "merged", "together", "below", "merges"} {
		if found[reason] < 100 {
			t.Errorf("only %d merges with files that are %s", found[reason], reason)
		}
	}
}
