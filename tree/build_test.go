package tree

import (
	"math"
	"slices"
	"strconv"
	"strings"
	"testing"

	"mainline/api"
	"mainline/samples"
	"mainline/store"
)

func TestP5_3BuildOfTheExample(t *testing.T) {
	s, _ := example(t)
	hasEntries(t, s, 3, api.Entry{Name: "d", Id: 2})
	hasEntries(t, s, 4, api.Entry{Name: "a", Dir: true, Id: 3}, api.Entry{Name: "c", Id: 1})
	hasEntries(t, s, 5, api.Entry{Name: "a", Id: 2}, api.Entry{Name: "b", Dir: true, Id: 4})
	if s.Many() != 5 {
		t.Errorf("%d objects", s.Many())
	}
}

func TestP5_3BuildOfFewFiles(t *testing.T) {
	s := withTexts(t, "x", "y")
	for _, none := range [][]api.File{nil, {}} {
		root, e := Build(s, none)
		isRoot(t, "Build of no files", root, e, 3)
		hasEntries(t, s, 3)
	}
	root, e := Build(s, []api.File{file("f", 1)})
	isRoot(t, "Build of one file in the root", root, e, 4)
	hasEntries(t, s, 4, api.Entry{Name: "f", Id: 1})
	root, e = Build(s, []api.File{file("d/e/f", 2)})
	isRoot(t, "Build of one file in directories", root, e, 7)
	hasEntries(t, s, 5, api.Entry{Name: "f", Id: 2})
	hasEntries(t, s, 6, api.Entry{Name: "e", Dir: true, Id: 5})
	hasEntries(t, s, 7, api.Entry{Name: "d", Dir: true, Id: 6})
	var zero store.Store
	root, e = Build(&zero, nil)
	isRoot(t, "Build in the zero Store", root, e, 1)
}

// TestP5_3DirectoriesComeAfterThoseBelow has directories whose names begin with those of others.
func TestP5_3DirectoriesComeAfterThoseBelow(t *testing.T) {
	s := withTexts(t, "0", "1", "2", "3", "4", "5", "6", "7", "8")
	files := []api.File{file("b/f", 1), file("a/b/f", 2), file("a/b/a/f", 3), file("a-/f", 4), file("a/b-/f", 5), file("a/f", 6), file("a/a/f", 7), file("B/f", 8), file("z", 9)}
	root, e := Build(s, files)
	isRoot(t, "Build", root, e, 18)
	for i, path := range []string{"B", "a/a", "a/b/a", "a/b", "a/b-", "a", "a-", "b"} {
		if entry, e := Get(s, root, path); e != api.OK || entry.Id != 10+i {
			t.Errorf("directory %s: %v, error %d; want %d", path, entry, e, 10+i)
		}
	}
}

func TestP5_3FilesInAnyOrder(t *testing.T) {
	files := []api.File{file("a", 1), file("b/a", 2), file("b/c/d", 1), file("b/e", 1), file("c/d", 2)}
	var try func(given, left []api.File)
	try = func(given, left []api.File) {
		if len(left) == 0 {
			s := withTexts(t, "x", "y")
			argument := slices.Clone(given)
			root, e := Build(s, argument)
			isRoot(t, "Build", root, e, 6)
			hasFiles(t, s, root, files...)
			if !slices.Equal(argument, given) {
				t.Fatalf("Build changes its argument: %v", argument)
			}
		}
		for i := range left {
			try(append(slices.Clone(given), left[i]), slices.Delete(slices.Clone(left), i, i+1))
		}
	}
	try(nil, files)
}

func TestP5_3EqualDirectoriesAreOneTree(t *testing.T) {
	s := withTexts(t, "x")
	root, e := Build(s, []api.File{file("a/d/f", 1), file("b/d/f", 1), file("d/f", 1), file("e", 1)})
	isRoot(t, "Build", root, e, 4)
	hasEntries(t, s, 2, api.Entry{Name: "f", Id: 1})
	hasEntries(t, s, 3, api.Entry{Name: "d", Dir: true, Id: 2})
	hasEntries(t, s, 4, api.Entry{Name: "a", Dir: true, Id: 3}, api.Entry{Name: "b", Dir: true, Id: 3}, api.Entry{Name: "d", Dir: true, Id: 2}, api.Entry{Name: "e", Id: 1})
}

func TestP5_3ErrorsOfBuild(t *testing.T) {
	s, root := example(t)
	for _, c := range []struct {
		want  api.Errno
		files []api.File
	}{
		{10, []api.File{file("", 1)}},
		{10, []api.File{file("a/", 1)}},
		{10, []api.File{file("a", 1), file("../x", 1)}},
		{10, []api.File{file("a/b", 1), file("a//b", 1)}},
		{10, []api.File{file(strings.Repeat("n", 201), 1)}},
		{10, []api.File{file(strings.Repeat("d/", 20)+"f", 1)}},
		{1, []api.File{file("a", 0)}},
		{1, []api.File{file("a", -1)}},
		{1, []api.File{file("a", 3)}},
		{1, []api.File{file("a", root)}},
		{1, []api.File{file("a", 6)}},
		{1, []api.File{file("a", math.MaxInt)}},
		{1, []api.File{file("a", math.MinInt)}},
		{1, []api.File{file("a", 1), file("b", 2), file("c", 3)}},
		{42, []api.File{file("a", 1), file("a", 1)}},
		{42, []api.File{file("a", 1), file("a", 2)}},
		{42, []api.File{file("a/b", 1), file("c", 2), file("a/b", 1)}},
		{13, []api.File{file("a", 1), file("a/b", 1)}},
		{13, []api.File{file("a/b", 1), file("a", 1)}},
		{13, []api.File{file("a/b/c", 1), file("a", 1)}},
		{13, []api.File{file("a", 1), file("a/b/c", 1)}},
		{13, []api.File{file("a/b", 1), file("a/b/c/d", 1)}},
		{13, []api.File{file("a/b/c/d", 1), file("a/b", 1)}},
		{13, []api.File{file("a/c", 1), file("a/b", 1), file("a/b/c", 1)}},
		{13, []api.File{file("x", 1), file("b/a/d", 2), file("b/c", 2), file("a/b", 1), file("b", 1)}},
		// several errors: of the first file that has one, the first one
		{10, []api.File{file("a/", 0)}},
		{10, []api.File{file("..", 7), file("a", 1)}},
		{1, []api.File{file("a", 1), file("a", 0)}},
		{1, []api.File{file("a", 1), file("a/b", 0)}},
		{1, []api.File{file("a", 0), file("a", 0)}},
		{1, []api.File{file("a", 0), file("", 1)}},
		{10, []api.File{file("", 1), file("a", 0)}},
		{42, []api.File{file("a", 1), file("a", 1), file("", 1)}},
		{42, []api.File{file("a", 1), file("a", 1), file("a/b", 1)}},
		{13, []api.File{file("a", 1), file("a/b", 1), file("a", 1)}},
		{13, []api.File{file("a/b", 1), file("a", 1), file("a/b", 1)}},
		{13, []api.File{file("a", 1), file("a/b", 1), file("b", 9)}},
		{42, []api.File{file("b/c", 1), file("b/c", 1), file("b", 1)}},
	} {
		got, e := Build(s, c.files)
		fails(t, "Build", got, e, c.want, s, 5)
		got, e = Build(nil, c.files)
		fails(t, "Build in a nil store", got, e, api.ErrArg, nil, 0)
	}
	for _, none := range [][]api.File{nil, {}, {file("a", 1)}} {
		got, e := Build(nil, none)
		fails(t, "Build in a nil store", got, e, api.ErrArg, nil, 0)
	}
	var zero store.Store
	got, e := Build(&zero, []api.File{file("a", 1)})
	fails(t, "Build in the zero Store", got, e, api.ErrArg, &zero, 0)
}

func TestP5_3PathsThatOnlyLookAsIfOneWereBelow(t *testing.T) {
	s := withTexts(t, "x")
	want := []api.File{file("a/b", 1), file("a-/b", 1), file("a.b", 1), file("aa", 1), file("ab/c", 1), file("b/a", 1), file("b.a/c", 1)}
	root := build(t, s, backward(want)...)
	hasFiles(t, s, root, want...)
}

// manyFiles returns n files in directories of 100.
func manyFiles(n int) []api.File {
	files := make([]api.File, n)
	for i := range files {
		files[i] = file("d"+strconv.Itoa(i/100)+"/f"+strconv.Itoa(i%100), 1)
	}
	return files
}

func TestP5_3ManyFiles(t *testing.T) {
	s := withTexts(t, "x")
	most, more := manyFiles(100000), manyFiles(100001)
	root, e := Build(s, more)
	fails(t, "Build of 100001 files", root, e, api.ErrMany, s, 1)
	more[0].Path, more[1].Id = "", 0
	root, e = Build(s, more)
	fails(t, "Build of 100001 files with other errors", root, e, api.ErrMany, s, 1)
	root, e = Build(nil, more)
	fails(t, "Build of 100001 files in a nil store", root, e, api.ErrArg, nil, 0)
	root, e = Build(s, slices.Repeat([]api.File{file("a", 1)}, 100001))
	fails(t, "Build of one file 100001 times", root, e, api.ErrMany, s, 1)
	root, e = Build(s, slices.Repeat([]api.File{file("a", 1)}, 100000))
	fails(t, "Build of one file 100000 times", root, e, api.ErrTwice, s, 1)
	root, e = Build(s, most)
	isRoot(t, "Build of 100000 files", root, e, 3)
	if files := Files(s, root); len(files) != 100000 {
		t.Errorf("%d files", len(files))
	}
	again, e := Build(s, Files(s, root))
	isRoot(t, "Build of Files", again, e, root)
	most[99999] = file("d0", 1)
	root, e = Build(s, most)
	fails(t, "Build with an error in the last file", root, e, api.ErrKind, s, 3)
}

func TestP5_3BuildAtTheLimitsOfPaths(t *testing.T) {
	s := withTexts(t, "x")
	deep, long := strings.Repeat("d/", 19), strings.Repeat("n", 200)
	files := []api.File{file(deep+"f", 1), file(deep+"g", 1), file(strings.Repeat("d/", 18)+"f", 1), file(long, 1)}
	root, e := Build(s, files)
	isRoot(t, "Build", root, e, 21)
	hasFiles(t, s, root, files...)
}

func TestP5_3RandomFilesFollowTheWords(t *testing.T) {
	errors := map[api.Errno]int{}
	for seed := range uint32(4000) {
		s, want := withTexts(t, "x", "y", "z"), withTexts(t, "x", "y", "z")
		below, word := samples.Below(seed), samples.Words(seed, []string{"ab/", "abcdefgh-."}[seed%2])
		for range 3 {
			files := make([]api.File, below(8))
			for i := range files {
				path := word(4)
				if seed%2 == 1 {
					path = strings.Trim(path, ".") + "/" + word(2)
				}
				if below(3) > 0 {
					path = "a/" + strings.Trim(path, "/")
				}
				files[i] = file(path, 1+below(3)+below(30)/29*50)
			}
			root, e := Build(s, files)
			wanted, wantE := buildByWords(want, files)
			if root != wanted || e != wantE {
				t.Fatalf("Build(%v): %d, error %d; want %d, error %d", files, root, e, wanted, wantE)
			}
			errors[e]++
		}
		sameObjects(t, s, want)
	}
	for _, e := range []api.Errno{api.OK, api.ErrPath, api.ErrArg, api.ErrTwice, api.ErrKind} {
		if errors[e] < 100 {
			t.Errorf("only %d calls with the error %d", errors[e], e)
		}
	}
}

func TestP5_7BuildOfFilesIsTheRoot(t *testing.T) {
	for seed := range uint32(100) {
		s := withTexts(t, "x", "y")
		below, word := samples.Below(seed), samples.Words(seed, "abc/")
		root := build(t, s)
		for range 30 {
			path := word(6)
			if next, e := Put(s, root, path, 1+below(2)); e == api.OK {
				root = next
			} else if next, e := Remove(s, root, path); e == api.OK {
				root = next
			}
			many := s.Many()
			again, e := Build(s, Files(s, root))
			isRoot(t, "Build of Files", again, e, root)
			if s.Many() != many {
				t.Fatalf("Build of Files adds %d objects", s.Many()-many)
			}
		}
	}
	s, _ := example(t)
	empty := build(t, s)
	for _, root := range []int{3, 4, 5, empty} {
		again, e := Build(s, Files(s, root))
		isRoot(t, "Build of Files", again, e, root)
	}
}

func TestP5_7EqualFilesLeadToEqualRoots(t *testing.T) {
	for seed := range uint32(200) {
		s := withTexts(t, "x", "y")
		below, word := samples.Below(seed), samples.Words(seed, "ab/")
		first := 0
		for range 12 {
			if next, e := Put(s, first, word(6), 1+below(2)); e == api.OK {
				first = next
			}
		}
		if first == 0 {
			first = build(t, s)
		}
		// The same files by another way: from other files, put in another order, and what is too much removed.
		second := build(t, s, file("x", 1), file("y/a/b", 2), file("y/b", 1))
		for _, f := range backward(Files(s, first)) {
			second, _ = Put(s, second, f.Path, f.Id%2+1)
			second, _ = Put(s, second, f.Path, f.Id)
		}
		for _, path := range []string{"y/b", "x", "y/a/b"} {
			second, _ = Remove(s, second, path)
		}
		isRoot(t, "another way to the same files", second, api.OK, first)
		if len(Diff(s, first, second)) != 0 {
			t.Fatalf("equal roots differ")
		}
	}
}
