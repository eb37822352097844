package tree

import (
	"math"
	"slices"
	"strconv"
	"strings"
	"testing"

	"mainline/api"
	"mainline/samples"
	"mainline/store"
)

func TestP5_1GetOfTheExample(t *testing.T) {
	s, root := example(t)
	for _, c := range []struct {
		path string
		want api.Entry
		e    api.Errno
	}{
		{"b/a", api.Entry{Name: "a", Dir: true, Id: 3}, 0},
		{"a/x", api.Entry{}, 13}, {"q", api.Entry{}, 12}, {"../x", api.Entry{}, 10},
		{"a", api.Entry{Name: "a", Id: 2}, 0}, {"b", api.Entry{Name: "b", Dir: true, Id: 4}, 0},
		{"b/c", api.Entry{Name: "c", Id: 1}, 0}, {"b/a/d", api.Entry{Name: "d", Id: 2}, 0},
		{"a/x/y", api.Entry{}, 13}, {"a/a", api.Entry{}, 13}, {"b/c/d", api.Entry{}, 13}, {"b/a/d/e/f", api.Entry{}, 13},
		{"c", api.Entry{}, 12}, {"q/a", api.Entry{}, 12}, {"b/d", api.Entry{}, 12}, {"b/b/a", api.Entry{}, 12}, {"b/a/c", api.Entry{}, 12}, {"A", api.Entry{}, 12}, {"b/a/d.", api.Entry{}, 12},
		{"", api.Entry{}, 10}, {"/", api.Entry{}, 10}, {"/a", api.Entry{}, 10}, {"a/", api.Entry{}, 10}, {"b//c", api.Entry{}, 10}, {"b/./c", api.Entry{}, 10}, {"b/../a", api.Entry{}, 10},
		{"a/x/", api.Entry{}, 10}, {"q/..", api.Entry{}, 10}, {"*", api.Entry{}, 10}, {"b/*", api.Entry{}, 10}, {"a b", api.Entry{}, 10}, {"\xff", api.Entry{}, 10},
	} {
		if entry, e := Get(s, root, c.path); entry != c.want || e != c.e {
			t.Errorf("Get(%q): %v, error %d; want %v, error %d", c.path, entry, e, c.want, c.e)
		}
	}
	if s.Many() != 5 {
		t.Errorf("%d objects after Get", s.Many())
	}
}

func TestP5_1GetWithoutATree(t *testing.T) {
	s, _ := example(t)
	for _, of := range []*store.Store{s, nil, {}, store.New()} {
		for _, root := range append(noTrees(s.Many()), 2) {
			for path, want := range map[string]api.Errno{"a": 12, "b/a": 12, "b/a/d": 12, "a/x": 12, "": 10, "a/": 10} {
				if entry, e := Get(of, root, path); entry != (api.Entry{}) || e != want {
					t.Errorf("Get(%d, %q): %v, error %d", root, path, entry, e)
				}
			}
		}
	}
	if entry, e := Get(nil, 5, "a"); entry != (api.Entry{}) || e != api.ErrMissing {
		t.Errorf("Get of a nil store: %v, error %d", entry, e)
	}
}

func TestP5_1GetInDirectoriesOfAllSizes(t *testing.T) {
	names := "abcdefghijklmnopqrstuvwxyz"
	for size := range 13 {
		s := withTexts(t, "x", "y")
		var files []api.File
		for i := range size {
			files = append(files, file("0/"+names[2*i+1:2*i+2], 1+i%2), file(names[2*i+1:2*i+2], 1+i%2))
		}
		root := build(t, s, files...)
		for i := range 2*size + 1 {
			for _, dir := range []string{"", "0/"} {
				name := names[i : i+1]
				want, wantE := getByWords(s, root, dir+name)
				if entry, e := Get(s, root, dir+name); entry != want || e != wantE {
					t.Errorf("Get(%q) of %d files: %v, error %d; want %v, error %d", dir+name, size, entry, e, want, wantE)
				}
			}
		}
	}
}

func TestP5_1GetAtTheLimits(t *testing.T) {
	s := withTexts(t, "x")
	root := deepTree(t, s, 30)
	for levels := range 30 {
		at := strings.Repeat("d/", levels)
		_, file := Get(s, root, at+"f")
		dir, directory := Get(s, root, at+"d")
		switch {
		case levels >= 20:
			if file != api.ErrPath || directory != api.ErrPath {
				t.Errorf("below %d directories: errors %d, %d", levels, file, directory)
			}
		case file != api.ErrMissing || directory != api.OK || !dir.Dir:
			t.Errorf("below %d directories: errors %d, %d, %v", levels, file, directory, dir)
		}
	}
	long := strings.Repeat("n", 200)
	root = build(t, s, file(long, 1))
	if entry, e := Get(s, root, long); entry.Id != 1 || e != api.OK {
		t.Errorf("a path of 200 bytes: %v, error %d", entry, e)
	}
	if _, e := Get(s, root, long+"n"); e != api.ErrPath {
		t.Errorf("a path of 201 bytes: error %d", e)
	}
	if _, e := Get(s, root, long[1:]); e != api.ErrMissing {
		t.Errorf("a path of 199 bytes: error %d", e)
	}
}

func TestP5_2FilesOfKnownTrees(t *testing.T) {
	s, root := example(t)
	hasFiles(t, s, root, file("a", 2), file("b/a/d", 2), file("b/c", 1))
	hasFiles(t, s, 4, file("a/d", 2), file("c", 1))
	hasFiles(t, s, 3, file("d", 2))
	empty := build(t, s)
	hasFiles(t, s, empty)
	if s.Many() != 6 {
		t.Errorf("%d objects after Files", s.Many())
	}
}

func TestP5_2FilesWithoutATree(t *testing.T) {
	s, _ := example(t)
	for _, of := range []*store.Store{s, nil, {}, store.New()} {
		for _, root := range append(noTrees(s.Many()), 2) {
			hasFiles(t, of, root)
		}
	}
	hasFiles(t, nil, 5)
}

func TestP5_2FilesAreInTheOrderOfPaths(t *testing.T) {
	s := withTexts(t, "x")
	var want []api.File
	for _, path := range []string{"-", ".a", "0/a", "0/a-", "0-", "A", "a/-", "a/b/c", "a/b/d", "a/b-/c", "a/b0", "a/c", "a-/a", "a.", "a0/a/a", "ab", "b/a", "z"} {
		want = append(want, file(path, 1))
	}
	root := build(t, s, backward(want)...)
	hasFiles(t, s, root, want...)
}

func TestP5_2FilesOfDeepTrees(t *testing.T) {
	for _, levels := range []int{19, 20, 21, 100, 60000} {
		s := withTexts(t, "x")
		hasFiles(t, s, deepTree(t, s, levels), file(strings.Repeat("d/", levels)+"f", 1))
	}
}

func TestP5_2FilesOfATreeInManyPlaces(t *testing.T) {
	s := withTexts(t, "x", "y")
	low, _ := s.Tree([]api.Entry{{Name: "f", Id: 1}, {Name: "g", Id: 2}})
	high, _ := s.Tree([]api.Entry{{Name: "a", Dir: true, Id: low}, {Name: "b", Id: 1}, {Name: "c", Dir: true, Id: low}})
	root, _ := s.Tree([]api.Entry{{Name: "p", Dir: true, Id: high}, {Name: "q", Dir: true, Id: low}, {Name: "r", Dir: true, Id: high}})
	hasFiles(t, s, root, file("p/a/f", 1), file("p/a/g", 2), file("p/b", 1), file("p/c/f", 1), file("p/c/g", 2), file("q/f", 1), file("q/g", 2),
		file("r/a/f", 1), file("r/a/g", 2), file("r/b", 1), file("r/c/f", 1), file("r/c/g", 2))
}

func TestP5_2FilesReturnsNewMemory(t *testing.T) {
	s, root := example(t)
	files, again := Files(s, root), Files(s, root)
	files[0], files[1].Path = file("z", 9), "q"
	_ = append(files[:2], file("y", 8))
	if !slices.Equal(again, Files(s, root)) || again[0] != file("a", 2) {
		t.Errorf("%v after a change of another result", again)
	}
}

// samePut checks that Put does, to s, what the chapter's words do to want.
func samePut(t *testing.T, s, want *store.Store, root int, path string, id int) int {
	t.Helper()
	got, e := Put(s, root, path, id)
	wanted, wantE := putByWords(want, root, path, id)
	if got != wanted || e != wantE || s.Many() != want.Many() {
		t.Fatalf("Put(%d, %q, %d): %d, error %d, then %d objects; want %d, error %d, %d", root, path, id, got, e, s.Many(), wanted, wantE, want.Many())
	}
	return got
}

// sameRemove checks that Remove does, to s, what the chapter's words do to want.
func sameRemove(t *testing.T, s, want *store.Store, root int, path string) int {
	t.Helper()
	got, e := Remove(s, root, path)
	wanted, wantE := removeByWords(want, root, path)
	if got != wanted || e != wantE || s.Many() != want.Many() {
		t.Fatalf("Remove(%d, %q): %d, error %d, then %d objects; want %d, error %d, %d", root, path, got, e, s.Many(), wanted, wantE, want.Many())
	}
	return got
}

func TestP5_4PutOfTheExample(t *testing.T) {
	s, root := example(t)
	next, e := Put(s, root, "b/c", 2)
	isRoot(t, "Put", next, e, 7)
	hasEntries(t, s, 6, api.Entry{Name: "a", Dir: true, Id: 3}, api.Entry{Name: "c", Id: 2})
	hasEntries(t, s, 7, api.Entry{Name: "a", Id: 2}, api.Entry{Name: "b", Dir: true, Id: 6})
	hasFiles(t, s, next, file("a", 2), file("b/a/d", 2), file("b/c", 2))
	hasFiles(t, s, root, file("a", 2), file("b/a/d", 2), file("b/c", 1))
}

func TestP5_4PutMakesDirectories(t *testing.T) {
	s, root := example(t)
	next, e := Put(s, root, "b/n/e/w", 1)
	isRoot(t, "Put", next, e, 9)
	hasEntries(t, s, 6, api.Entry{Name: "w", Id: 1})
	hasEntries(t, s, 7, api.Entry{Name: "e", Dir: true, Id: 6})
	hasEntries(t, s, 8, api.Entry{Name: "a", Dir: true, Id: 3}, api.Entry{Name: "c", Id: 1}, api.Entry{Name: "n", Dir: true, Id: 7})
	hasEntries(t, s, 9, api.Entry{Name: "a", Id: 2}, api.Entry{Name: "b", Dir: true, Id: 8})
	for _, path := range []string{"0", "aa", "c", "b/0", "b/b", "b/d", "b/a/c", "b/a/e"} {
		next, e := Put(s, root, path, 2)
		want := append(Files(s, root), file(path, 2))
		slices.SortFunc(want, func(a, b api.File) int { return comparedByWords(a.Path, b.Path) })
		if e != api.OK {
			t.Errorf("Put(%q): error %d", path, e)
		}
		hasFiles(t, s, next, want...)
	}
}

func TestP5_4PutOfTheSameContents(t *testing.T) {
	s, root := example(t)
	for _, f := range Files(s, root) {
		again, e := Put(s, root, f.Path, f.Id)
		isRoot(t, "Put of "+f.Path, again, e, root)
	}
	if s.Many() != 5 {
		t.Errorf("%d objects", s.Many())
	}
}

func TestP5_4PutWithoutATree(t *testing.T) {
	for _, root := range append(noTrees(5), 2) {
		s, _ := example(t)
		next, e := Put(s, root, "f", 1)
		isRoot(t, "Put into no tree", next, e, 6)
		hasFiles(t, s, next, file("f", 1))
		s, _ = example(t)
		next, e = Put(s, root, "d/g/f", 2)
		isRoot(t, "Put into no tree", next, e, 8)
		hasFiles(t, s, next, file("d/g/f", 2))
	}
	s := withTexts(t, "x")
	next, e := Put(s, 0, "f", 1)
	isRoot(t, "Put into an empty store", next, e, 2)
	var zero store.Store
	next, e = Put(&zero, 0, "f", 1)
	fails(t, "Put into the zero Store", next, e, api.ErrArg, &zero, 0)
}

func TestP5_4ErrorsOfPut(t *testing.T) {
	s, root := example(t)
	for _, c := range []struct {
		root int
		path string
		id   int
		want api.Errno
	}{
		{root, "b", 1, 13}, {root, "b/a", 1, 13}, {root, "a/x", 1, 13}, {root, "a/x/y", 1, 13}, {root, "b/c/x", 2, 13}, {root, "b/a/d/e", 2, 13}, {root, "b/a/d/e/f/g", 2, 13},
		{root, "", 1, 10}, {root, "b/", 1, 10}, {root, "/b", 1, 10}, {root, "b//c", 1, 10}, {root, "..", 1, 10}, {root, "a/..", 1, 10}, {root, "a b", 1, 10}, {root, "*", 1, 10},
		{root, strings.Repeat("n", 201), 1, 10}, {root, strings.Repeat("d/", 20) + "f", 1, 10}, {7, "", 1, 10}, {-1, "a/", 1, 10},
		{root, "q", 0, 1}, {root, "q", -1, 1}, {root, "q", 3, 1}, {root, "q", root, 1}, {root, "q", 6, 1}, {root, "q", math.MaxInt, 1}, {root, "q", math.MinInt, 1}, {0, "q", 3, 1},
		{root, "", 0, 10}, {root, "a/", 7, 10}, {root, "b", 3, 1}, {root, "a/x", 0, 1}, {root, "b", 99, 1}, {root, "b/c/x", 6, 1}, // the first of several
	} {
		next, e := Put(s, c.root, c.path, c.id)
		fails(t, "Put of "+c.path+" as "+strconv.Itoa(c.id), next, e, c.want, s, 5)
	}
	for _, path := range []string{"a", "", "b", "a/x", "\xff"} {
		for _, id := range []int{1, 0, 5} {
			next, e := Put(nil, root, path, id)
			fails(t, "Put into a nil store", next, e, api.ErrArg, nil, 0)
		}
	}
}

func TestP5_4PutAtTheLimits(t *testing.T) {
	s := withTexts(t, "x")
	deep := strings.Repeat("d/", 19) + "f"
	next, e := Put(s, 0, deep, 1)
	isRoot(t, "Put below 19 directories", next, e, 21)
	hasFiles(t, s, next, file(deep, 1))
	long := strings.Repeat("n", 200)
	next, e = Put(s, next, long, 1)
	isRoot(t, "Put of a long name", next, e, 22)
	hasFiles(t, s, next, file(deep, 1), file(long, 1))
}

func TestP5_4PutIntoTreesDeeperThanPaths(t *testing.T) {
	s := withTexts(t, "x", "y")
	root := deepTree(t, s, 25)
	next, e := Put(s, root, strings.Repeat("d/", 19)+"g", 2)
	if e != api.OK || s.Many() != 48 {
		t.Fatalf("error %d, %d objects", e, s.Many())
	}
	hasFiles(t, s, next, file(strings.Repeat("d/", 25)+"f", 1), file(strings.Repeat("d/", 19)+"g", 2))
}

func TestP5_5RemoveOfTheExample(t *testing.T) {
	s, root := example(t)
	next, e := Remove(s, root, "b/a/d")
	isRoot(t, "Remove", next, e, 7)
	hasEntries(t, s, 6, api.Entry{Name: "c", Id: 1})
	hasEntries(t, s, 7, api.Entry{Name: "a", Id: 2}, api.Entry{Name: "b", Dir: true, Id: 6})
	hasFiles(t, s, next, file("a", 2), file("b/c", 1))
	hasFiles(t, s, root, file("a", 2), file("b/a/d", 2), file("b/c", 1))
}

func TestP5_5RemoveOfDirectoriesThatBecomeEmpty(t *testing.T) {
	s := withTexts(t, "x")
	root := build(t, s, file("a/b/c/d", 1), file("a/e", 1)) // the trees 2 to 5
	next, e := Remove(s, root, "a/b/c/d")
	isRoot(t, "Remove", next, e, 7)
	hasEntries(t, s, 6, api.Entry{Name: "e", Id: 1})
	hasEntries(t, s, 7, api.Entry{Name: "a", Dir: true, Id: 6})
	last, e := Remove(s, next, "a/e")
	isRoot(t, "Remove", last, e, 8)
	hasEntries(t, s, 8)
	other, e := Remove(s, root, "a/e")
	isRoot(t, "Remove", other, e, 10)
	hasEntries(t, s, 9, api.Entry{Name: "b", Dir: true, Id: 3})
	again, e := Remove(s, other, "a/b/c/d")
	isRoot(t, "Remove of the last file", again, e, 8)
	if s.Many() != 10 {
		t.Errorf("%d objects", s.Many())
	}
}

func TestP5_5RemoveOfTheOnlyFile(t *testing.T) {
	s := withTexts(t, "x")
	for i, path := range []string{"f", "d/f", strings.Repeat("d/", 19) + "f", strings.Repeat("n", 200)} {
		root := build(t, s, file(path, 1))
		next, e := Remove(s, root, path)
		want := 3 // the empty tree, which came behind the first root
		isRoot(t, "Remove of the only file, number "+strconv.Itoa(i), next, e, want)
		hasEntries(t, s, next)
	}
}

func TestP5_5ErrorsOfRemove(t *testing.T) {
	s, root := example(t)
	for path, want := range map[string]api.Errno{
		"b": 13, "b/a": 13, "a/x": 13, "a/x/y": 13, "b/c/x": 13, "b/a/d/e": 13,
		"q": 12, "b/d": 12, "b/b/d": 12, "b/a/c": 12, "q/r/s": 12,
		"": 10, "a/": 10, "/a": 10, "b//c": 10, "b/../a": 10, "*": 10, "\x00": 10, strings.Repeat("d/", 20) + "f": 10, strings.Repeat("n", 201): 10,
	} {
		next, e := Remove(s, root, path)
		fails(t, "Remove of "+path, next, e, want, s, 5)
		next, e = Remove(nil, root, path)
		fails(t, "Remove from a nil store", next, e, api.ErrArg, nil, 0)
	}
	for _, root := range append(noTrees(5), 2) {
		for path, want := range map[string]api.Errno{"a": 12, "b/c": 12, "": 10} {
			next, e := Remove(s, root, path)
			fails(t, "Remove from no tree", next, e, want, s, 5)
		}
	}
	next, e := Remove(nil, 0, "a")
	fails(t, "Remove from a nil store", next, e, api.ErrArg, nil, 0)
}

// TestP5_5RandomCallsFollowTheWords compares the roots and all objects, and so the trees that Put and Remove add, and their order.
func TestP5_5RandomCallsFollowTheWords(t *testing.T) {
	failed := 0
	for seed := range uint32(60) {
		s, want := withTexts(t, "x", "y", "z"), withTexts(t, "x", "y", "z")
		below, word := samples.Below(seed), samples.Words(seed, "ab/")
		roots := []int{0}
		for range 150 {
			root, path := roots[max(len(roots)-1-below(4), 0)], word(7)
			if below(3) == 0 && len(Files(s, root)) > 0 {
				files := Files(s, root)
				path = files[below(len(files))].Path
			}
			var next int
			if below(2) == 0 {
				next = samePut(t, s, want, root, path, 1+below(3)+below(40)/39*90)
			} else {
				next = sameRemove(t, s, want, root, path)
			}
			if next == 0 {
				failed++
			} else {
				roots = append(roots, next)
			}
		}
		sameObjects(t, s, want)
	}
	if failed < 2000 || failed > 7000 {
		t.Errorf("%d errors of 9000 calls", failed)
	}
}

func TestP5_1RandomPathsFollowTheWords(t *testing.T) {
	for seed := range uint32(100) {
		s := withTexts(t, "x", "y")
		word := samples.Words(seed, "ab/")
		root := 0
		for range 15 {
			if next, e := Put(s, root, word(7), 1); e == api.OK {
				root = next
			}
		}
		for _, path := range append(samples.Strings("ab/", 5), word(9), word(9)) {
			entry, e := Get(s, root, path)
			if want, wantE := getByWords(s, root, path); entry != want || e != wantE {
				t.Fatalf("Get(%q): %v, error %d; want %v, error %d", path, entry, e, want, wantE)
			}
		}
		hasFiles(t, s, root, listByWords(filesByWords(s, root))...)
	}
}

func TestP1CallsEndForAllArguments(t *testing.T) {
	var zero store.Store
	filled, _ := example(t)
	for _, s := range []*store.Store{nil, &zero, store.New(), filled} {
		for _, id := range append(noTrees(s.Many()), 2, 3, 4, 5) {
			Files(s, id)
			for _, other := range append(noTrees(s.Many()), 2, 3, 4, 5) {
				Diff(s, id, other)
			}
			for _, path := range []string{"", "a", "/", "a/", "//", "..", "a/x", "b/a/d", "\xff", strings.Repeat("a/", 1000), strings.Repeat("x", 1<<20)} {
				Get(s, id, path)
				Put(s, id, path, id)
				Put(s, id, path, 1)
				Remove(s, id, path)
				Build(s, []api.File{file(path, id), file("a", 1)})
			}
		}
	}
}

func TestP1TreesWithMoreFilesThanCanBeCounted(t *testing.T) {
	s := withTexts(t, "x", "y")
	root := wideTree(t, s)
	many := s.Many()
	path := strings.Repeat("e/", 19) + "e"
	if entry, e := Get(s, root, path); entry != (api.Entry{Name: "e", Id: 1}) || e != api.OK {
		t.Errorf("Get: %v, error %d", entry, e)
	}
	changed, e := Put(s, root, path, 2)
	if e != api.OK || s.Many() != many+20 {
		t.Errorf("Put: error %d, %d objects of %d", e, s.Many(), many)
	}
	removed, e := Remove(s, changed, path)
	if e != api.OK || s.Many() != many+40 {
		t.Errorf("Remove: error %d, %d objects of %d", e, s.Many(), many)
	}
	back, e := Put(s, removed, path, 1)
	isRoot(t, "Put", back, e, root)
}
