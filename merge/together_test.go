package merge

import (
	"math"
	"slices"
	"strconv"
	"strings"
	"testing"

	"mainline/api"
	"mainline/samples"
	"mainline/store"
	"mainline/tree"
)

func TestP7_3OutcomesWithTheSamePath(t *testing.T) {
	clashes(t, "", "a: x", "a: y", "a 0 0")
	clashes(t, "k: k", "k: k; d/a: x", "k: k; d/a: y", "d/a 0 0")
	clashes(t, "", "a: x; b: x; c: x", "a: y; b: x; c: z", "a 0 0; c 0 0")
	clashes(t, "a: x", "b: x", "a: x; b: y", "b 0 0")
	clashes(t, "a: x", "b: x", "a: y; b: x", "b 0 0") // the outcome of a has the contents y
	clashes(t, "a: x; b: y", "b: y; c: x", "a: x; c: y", "c 0 0")
	clashes(t, "a: x; b: y", "c: y; k: z", "b: y; c: x; k: z", "a 0 0") // a is gone in one and renamed in the other
	// The same contents count as one.
	merges(t, "", "a: x; b: x", "a: x; c: y", "a: x; b: x; c: y")
	merges(t, "a: x", "b: x", "a: x; b: x", "b: x")
	merges(t, "a: x", "b: x", "a: y; b: y", "b: y")
	merges(t, "a: x; b: x", "b: x; c: x", "a: x; c: x", "c: x")
	merges(t, "k: k", "k: k; a/b: x; a/c: y", "k: k; a/b: x; a/d: z", "k: k; a/b: x; a/c: y; a/d: z")
}

func TestP7_3OutcomesBelowOthers(t *testing.T) {
	clashes(t, "", "a: x", "a/b/c/d: y", "a/b/c/d 0 0")
	clashes(t, "", "d/a: x", "d/a/b: x", "d/a/b 0 0")
	clashes(t, "", "a: x", "a/b: x; a/c: x; a/d/e: y; a-: x; b: x", "a/b 0 0; a/c 0 0; a/d/e 0 0")
	clashes(t, "", "a: x; c/d: y", "a/b: x; a/c/d: x; c: z", "a/b 0 0; a/c/d 0 0; c/d 0 0")
	clashes(t, "", "a: x; b/c: x; c: x", "a: y; b: x; c/d: x", "a 0 0; b/c 0 0; c/d 0 0")
	clashes(t, "f: x", "a: x", "f: x; a/b: y", "a/b 0 0") // below a file that was renamed
	clashes(t, "f: x", "a/b: x", "f: x; a: y", "a/b 0 0") // a file that was renamed, below a new one
	clashes(t, "f: x; g: y", "a: x; g: y", "f: x; a/g: y", "a/g 0 0")
	// Names that only begin as others do.
	merges(t, "", "a: x; b/c: y", "ab: x; a-/b: y; a.b: z; b/c.d/e: y", "a: x; b/c: y; ab: x; a-/b: y; a.b: z; b/c.d/e: y")
	// What was above, or below, is not there any more.
	merges(t, "a: x; k: k", "a/b: y; k: k", "a: x; k: l", "a/b: y; k: l")
	merges(t, "a/b: x; a/c: x; k: k", "a: y; k: k", "a/b: x; a/c: x; k: l", "a: y; k: l")
	merges(t, "a/b: x; k: k", "a: x; k: k", "a/b: y; k: k", "a: y; k: k")
	merges(t, "a: x; k: k", "a/a: x; k: k", "a: y; k: k", "a/a: y; k: k")
	merges(t, "a: x; b: y", "b/c: x", "a: z; b: y", "b/c: z")
	merges(t, "a: x; b: y", "a/c: x; b: y", "a: y; b/d: x", "a/c: y; b/d: x")
	merges(t, "a/b: x; c/d: y", "c: x; c-: y", "a/b: x; c/d: y; e: z", "c: x; c-: y; e: z")
}

func TestP7_3FilesWithConflictsTakeNoPart(t *testing.T) {
	clashes(t, "f: x", "g: x", "h: x; g/k: y", "f 0 0")
	clashes(t, "f: x", "g: x", "g: z; h: x", "f 0 0")
	clashes(t, "f: x", "g/k: y", "g: x", "f 0 0")
	clashes(t, "f: x", "g: y", "g/k: x", "f 0 0")
	clashes(t, "a: x; b: y", "b/c: x", "a: x; b: z", "b 0 0")
	clashes(t, "a: x; b/c: y", "b: x", "a: x; b/c: z", "b/c 0 0")
	clashes(t, "a: x; b: y", "b/c: x; d: z", "a: x; b: z; d: w", "b 0 0; d 0 0") // others still do
}

func TestP7_4OrderOfConflicts(t *testing.T) {
	clashes(t, "", "a: x; a-: x; a.b/c: x; B: x", "a/b: x; a-: y; a.b: x; B: y", "B 0 0; a/b 0 0; a- 0 0; a.b/c 0 0")
	clashes(t, "a/b: x; a-: x; B/c: x; b: x", "a/b: y; a-: y; B/c: y; b: y", "a/b: z; a-: z; B/c: z; b: z", "B/c 0 1; a/b 0 1; a- 0 1; b 0 1")
}

func TestP7_4ConflictsOfAllKinds(t *testing.T) {
	base := "b: 1 2 3 4 5; c/f: x; c/r: r; e: gone; m: 1 2 3"
	left := "a: l; b: 0 2 3 4 0; c/f: y; c/l/m: l; d/r: r; h: l; k: k; m: 0 2 3"
	right := "a: k; b: 9 2 3 4 9; c/f: z; c/l: k; c/s: r; e: kept not; h: r; k/l/m: k; m: 1 2 0"
	clashes(t, base, left, right, "a 0 0; b 0 1; b 4 5; c/f 0 1; c/l/m 0 0; c/r 0 0; e 0 0; h 0 0; k/l/m 0 0")
}

// TestP7_4OrderOfSpans has conflicts in lines whose numbers have different numbers of digits.
func TestP7_4OrderOfSpans(t *testing.T) {
	text := func(word string) string {
		words := "b:"
		for i := range 120 {
			if i%9 == 0 {
				words += " " + word
			} else {
				words += " " + strconv.Itoa(i)
			}
		}
		return words
	}
	var conflicts []string
	for i := 0; i < 120; i += 9 {
		conflicts = append(conflicts, "b "+strconv.Itoa(i)+" "+strconv.Itoa(i+1))
	}
	clashes(t, text("x")+"; a: x; c: x", text("y")+"; a: y; c: y", text("z")+"; a: z; c: z", "a 0 1; "+strings.Join(conflicts, "; ")+"; c 0 1")
}

func TestP7_4TheTreeConsistsOfAllOutcomes(t *testing.T) {
	base := "a: 1 2 3; b/c: x; b/d: y; b/e/f: z; g: w; h/i: v; j: u"
	left := "a: 0 2 3; b/c: x; b/d: q; b/e/g: z; g: w; h: new; j: u"
	right := "a: 1 2 4; b/c: x; b/e/f: t; g: w; h/i: v; k/j: u; l/m: n"
	clashes(t, base, left, right, "b/d 0 0")
	merges(t, base, left, strings.Replace(right, "b/e/f: t", "b/d: y; b/e/f: t", 1), "a: 0 2 4; b/c: x; b/d: q; b/e/g: t; g: w; h: new; k/j: u; l/m: n")
	merges(t, "a: x; b/c: y", "b/c: y", "a: x", "")
	merges(t, "a/b/c/d: x; a/e: y", "a/e: y", "a/b/c/d: x", "")
	merges(t, "a/b/c/d: x; a/e: y", "a/e: y", "a/b/c/d: x; a/e: z", "a/e: z")
}

// dense returns a tree of width^levels files that few objects make up: each directory has the same entry under names of one digit.
func dense(t *testing.T, s *store.Store, width, levels int) int {
	t.Helper()
	root, _ := s.Blob("x\n")
	for level := range levels {
		var entries []api.Entry
		for name := range width {
			entries = append(entries, api.Entry{Name: strconv.FormatInt(int64(name), 36), Dir: level > 0, Id: root})
		}
		next, e := s.Tree(entries)
		if e != api.OK {
			t.Fatalf("level %d: error %d", level, e)
		}
		root = next
	}
	return root
}

// with returns the root with a file that has one line, or without a file if the line is empty.
func with(t *testing.T, s *store.Store, root int, path, line string) int {
	t.Helper()
	if line == "" {
		next, e := tree.Remove(s, root, path)
		if e != api.OK {
			t.Fatalf("removing %s: error %d", path, e)
		}
		return next
	}
	id, _ := s.Blob(line + "\n")
	next, e := tree.Put(s, root, path, id)
	if e != api.OK {
		t.Fatalf("putting %s: error %d", path, e)
	}
	return next
}

func TestP7_4ManyFiles(t *testing.T) {
	s := store.New()
	many := []api.Conflict{{}}
	most := dense(t, s, 10, 5) // 100000 files
	more, less := with(t, s, most, "n", "n"), with(t, s, most, "0/1/2/3/4", "")
	changed := func(root int) int { return with(t, s, root, "5/5/5/5/5", "y") }
	// sides that leave base as it is
	for _, empty := range []int{0, -1, rootOf(t, s, "")} {
		returns(t, s, empty, most, empty, most, nil)
		returns(t, s, empty, more, empty, 0, many)
		returns(t, s, empty, more, more, 0, many)
	}
	returns(t, s, most, most, most, most, nil)
	returns(t, s, more, more, more, 0, many)
	returns(t, s, most, more, most, 0, many)
	returns(t, s, more, most, more, most, nil)
	// sides that both change base
	returns(t, s, most, changed(most), with(t, s, most, "6/6/6/6/6", "z"), with(t, s, changed(most), "6/6/6/6/6", "z"), nil)
	returns(t, s, most, changed(most), more, 0, many)
	returns(t, s, more, changed(more), with(t, s, more, "n", "m"), 0, many)
	returns(t, s, more, changed(more), most, changed(most), nil)
	returns(t, s, most, less, more, with(t, s, less, "n", "n"), nil)
	returns(t, s, less, most, with(t, s, less, "n", "n"), 0, many)
	returns(t, s, less, with(t, s, less, "n", "n"), with(t, s, changed(less), "n", "n"), with(t, s, changed(less), "n", "n"), nil)
	returns(t, s, less, with(t, s, less, "m", "m"), with(t, s, less, "n", "n"), 0, many)
	returns(t, s, with(t, s, most, "n", "a"), with(t, s, most, "m", "a"), with(t, s, more, "n", "b"), 0, many)
	// conflicts of files, beside which the number of files is none
	returns(t, s, most, with(t, s, more, "5/5/5/5/5", "z"), changed(most), 0, []api.Conflict{{Path: "5/5/5/5/5", To: 1}})
	returns(t, s, more, with(t, s, more, "m", "a"), with(t, s, more, "m", "b"), 0, []api.Conflict{{Path: "m"}})
}

// TestP7_4ManyDifferentFiles has as many files as a tree can have, most of which are new, or changed, in one of the trees or in both.
func TestP7_4ManyDifferentFiles(t *testing.T) {
	s := store.New()
	var first, second []api.File
	texts := []int{}
	for _, text := range []string{"1\n2\n3\n4\n", "0\n2\n3\n4\n", "1\n2\n3\n0\n", "0\n2\n3\n0\n"} {
		id, _ := s.Blob(text)
		texts = append(texts, id)
	}
	for i := range 50000 {
		name := strconv.Itoa(i)
		first = append(first, api.File{Path: "a/" + name[:1] + "/" + name, Id: texts[0]})
		second = append(second, api.File{Path: "b/" + name, Id: texts[0]})
	}
	build := func(files []api.File, text int) int {
		for i := range files {
			files[i].Id = texts[text]
		}
		root, e := tree.Build(s, files)
		if e != api.OK {
			t.Fatalf("Build: error %d", e)
		}
		return root
	}
	returns(t, s, 0, build(first, 0), build(second, 0), build(slices.Concat(first, second), 0), nil)
	returns(t, s, build(first, 0), build(first, 1), build(second, 0), build(second, 1), nil)
	returns(t, s, build(first, 0), build(first, 1), build(first, 2), build(first, 3), nil)
	more := with(t, s, build(first, 0), "c", "x")
	returns(t, s, 0, more, build(second, 0), 0, []api.Conflict{{}})
}

// TestP7_4SameResultsInOtherStores checks that no order of a map can be seen in the numbers of objects.
func TestP7_4SameResultsInOtherStores(t *testing.T) {
	var first []string
	for round := range 20 {
		s := store.New()
		root := func(before, after string) int {
			written := ""
			for i := range 20 {
				written += "; d" + strconv.Itoa(i%3) + "/f" + strconv.Itoa(i) + ": " + before + " 2 3 " + strconv.Itoa(i) + " 5 " + after
			}
			return rootOf(t, s, written)
		}
		base, left, right := root("1", "6"), root("0", "6"), root("1", "7")
		if round%2 == 1 {
			left, right = right, left
		}
		merged, conflicts := Trees(s, base, left, right)
		if merged == 0 || len(conflicts) > 0 {
			t.Fatalf("Trees: %d, %v", merged, conflicts)
		}
		if objects := firstObjects(s, s.Many()); round == 0 {
			first = objects
		} else if !slices.Equal(objects, first) {
			t.Fatalf("other objects in round %d", round)
		}
	}
}

func TestP7_5OneSideAloneOrBothAlike(t *testing.T) {
	alone := func(s *store.Store, base, root, want int) {
		returns(t, s, base, root, base, want, nil)
		returns(t, s, base, root, root, want, nil)
	}
	for seed := range uint32(1000) {
		s, base, left, right := randomRoots(t, seed)
		empty := rootOf(t, s, "")
		for _, root := range []int{base, left, right, empty} {
			alone(s, base, root, root)
			alone(s, root, base, base)
			for _, none := range []int{0, -1, math.MaxInt, 1 << 40} {
				alone(s, root, none, empty)
				alone(s, none, root, root)
			}
		}
	}
	s := store.New()
	huge := dense(t, s, 10, 20)
	returns(t, s, 0, huge, 0, 0, []api.Conflict{{}})
	alone(s, huge, dense(t, s, 10, 5), dense(t, s, 10, 5))
}

// TestP7_5ChangesOfDifferentFiles removes files and changes others, some in one tree and some in the other one.
func TestP7_5ChangesOfDifferentFiles(t *testing.T) {
	for seed := range uint32(1000) {
		s, base, _, _ := randomRoots(t, seed)
		below := samples.Below(seed)
		left, right, want := base, base, base
		for i, file := range tree.Files(s, base) {
			line := []string{"", "x", strconv.Itoa(i)}[below(3)]
			side := []*int{&left, &right, new(int)}[below(3)]
			if *side != 0 {
				*side, want = with(t, s, *side, file.Path, line), with(t, s, want, file.Path, line)
			}
		}
		returns(t, s, base, left, right, want, nil)
	}
}

func TestP1TreesOfANilStore(t *testing.T) {
	for _, base := range append(noTrees(5), 1) {
		for _, side := range append(noTrees(5), 1) {
			returns(t, nil, base, side, side, 0, []api.Conflict{{}})
			returns(t, nil, base, side, base, 0, []api.Conflict{{}})
		}
	}
}

func TestP1TreesOfEmptyStores(t *testing.T) {
	for _, none := range append(noTrees(5), 1) {
		for _, s := range []*store.Store{{}, store.New()} {
			returns(t, s, none, none, -5, 1, nil)
			if entries, isTree := s.Entries(1); !isTree || len(entries) > 0 || s.Many() != 1 {
				t.Errorf("%v, %v, %d objects", entries, isTree, s.Many())
			}
		}
	}
}

// TestP1AllNumbers tries all numbers of a small store, of texts and of trees, and numbers that are none.
func TestP1AllNumbers(t *testing.T) {
	s := store.New()
	rootOf(t, s, "a: x; b/c: y")
	rootOf(t, s, "d: x; b/c: z")
	many := s.Many()
	for base := -2; base <= many+2; base++ {
		for left := -2; left <= many+2; left++ {
			for right := -2; right <= left; right++ {
				want, conflicts, _ := treesByWords(s, base, left, right)
				returns(t, s, base, left, right, want, conflicts)
			}
		}
	}
	empty := rootOf(t, s, "")
	for _, base := range noTrees(s.Many()) {
		for _, left := range noTrees(s.Many()) {
			returns(t, s, base, left, -7, empty, nil)
		}
	}
}

// TestP1TreesDeeperThanPaths has files whose paths are not valid, of which nothing is promised but that a call ends.
func TestP1TreesDeeperThanPaths(t *testing.T) {
	s := store.New()
	deep := func(levels int, text string) int {
		id, _ := s.Blob(text)
		root, _ := s.Tree([]api.Entry{{Name: "f", Id: id}})
		for range levels {
			root, _ = s.Tree([]api.Entry{{Name: "d", Dir: true, Id: root}})
		}
		return root
	}
	for _, levels := range []int{18, 19, 20, 21, 60000} {
		base, other := deep(levels, "1\n2\n3\n"), deep(levels+1, "1\n2\n3\n")
		Trees(s, base, deep(levels, "0\n2\n3\n"), deep(levels, "1\n2\n0\n"))
		Trees(s, base, other, deep(levels, "1\n2\n0\n"))
		Trees(s, base, other, deep(levels, ""))
		Trees(s, deep(levels, "x"), other, base)
		Follow(s, base, other, strings.Repeat("d/", levels)+"f")
	}
}

func TestP1MoreFilesThanCanBeCounted(t *testing.T) {
	for _, width := range []int{10, 16, 32} { // 16^16 and 32^16 are 0 as an int
		s := store.New()
		huge := dense(t, s, width, 16)
		path, other := strings.Repeat("3/", 15)+"3", strings.Repeat("4/", 15)+"4"
		changed := with(t, s, huge, path, "y")
		returns(t, s, huge, huge, huge, 0, []api.Conflict{{}})
		returns(t, s, huge, changed, with(t, s, huge, other, "z"), 0, []api.Conflict{{}})
		returns(t, s, huge, changed, with(t, s, huge, path, "z"), 0, []api.Conflict{{Path: path, To: 1}})
		returns(t, s, huge, with(t, s, huge, path, ""), changed, 0, []api.Conflict{{Path: path}})
		goes(t, s, huge, changed, path, path)
		goes(t, s, changed, with(t, s, with(t, s, changed, path, ""), "new", "y"), path, "new")
	}
}
