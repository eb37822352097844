package tree

import (
	"slices"
	"strconv"
	"strings"
	"testing"

	"mainline/api"
	"mainline/samples"
	"mainline/store"
)

func added(path string, id int) api.Delta {
	return api.Delta{Kind: 1, Path: path, New: id}
}

func removed(path string, id int) api.Delta {
	return api.Delta{Kind: 2, Path: path, Old: id}
}

func modified(path string, old, now int) api.Delta {
	return api.Delta{Kind: 3, Path: path, Old: old, New: now}
}

func renamed(path, from string, id int) api.Delta {
	return api.Delta{Kind: 4, Path: path, From: from, Old: id, New: id}
}

func hasDiff(t *testing.T, s *store.Store, a, b int, want ...api.Delta) {
	t.Helper()
	if deltas := Diff(s, a, b); !slices.Equal(deltas, want) {
		t.Fatalf("Diff(%d, %d): %s; want %s", a, b, brief(deltas), brief(want))
	}
}

func TestP5_6DiffOfTheExample(t *testing.T) {
	s, root := example(t)
	next, _ := Remove(s, root, "b/c")
	next, _ = Put(s, next, "e", 1)
	many := s.Many()
	hasDiff(t, s, root, next, renamed("e", "b/c", 1))
	hasDiff(t, s, next, root, renamed("b/c", "e", 1))
	if s.Many() != many {
		t.Errorf("Diff adds %d objects", s.Many()-many)
	}
}

// TestP5_6DiffOfKnownTrees has trees that are written as paths with the number of the contents as the last byte.
func TestP5_6DiffOfKnownTrees(t *testing.T) {
	for _, c := range []struct {
		a, b string
		want []api.Delta
	}{
		{"", "", nil},
		{"a1", "a1", nil},
		{"", "a1", []api.Delta{added("a", 1)}},
		{"a1", "", []api.Delta{removed("a", 1)}},
		{"a1", "a2", []api.Delta{modified("a", 1, 2)}},
		{"a1", "b1", []api.Delta{renamed("b", "a", 1)}},
		{"b1", "a1", []api.Delta{renamed("a", "b", 1)}},
		{"a1", "b2", []api.Delta{removed("a", 1), added("b", 2)}},
		{"b1", "a2", []api.Delta{added("a", 2), removed("b", 1)}},
		{"a1 b2", "a2 b1", []api.Delta{modified("a", 1, 2), modified("b", 2, 1)}}, // changed files are not renamed ones
		{"a1 b2", "a2 c1", []api.Delta{modified("a", 1, 2), removed("b", 2), added("c", 1)}},
		{"a1", "a1 b1", []api.Delta{added("b", 1)}}, // a copy
		{"a1 b1", "a1", []api.Delta{removed("b", 1)}},
		{"a1 b1", "c1", []api.Delta{removed("b", 1), renamed("c", "a", 1)}},
		{"b1 c1", "a1", []api.Delta{renamed("a", "b", 1), removed("c", 1)}},
		{"a1", "b1 c1", []api.Delta{renamed("b", "a", 1), added("c", 1)}},
		{"c1", "a1 b1", []api.Delta{renamed("a", "c", 1), added("b", 1)}},
		{"a1 b1", "c1 d1", []api.Delta{renamed("c", "a", 1), renamed("d", "b", 1)}},
		{"c1 d1", "a1 b1", []api.Delta{renamed("a", "c", 1), renamed("b", "d", 1)}},
		{"a1 d1", "b1 c1", []api.Delta{renamed("b", "a", 1), renamed("c", "d", 1)}},
		{"b1 c1", "a1 d1", []api.Delta{renamed("a", "b", 1), renamed("d", "c", 1)}},
		{"a1 b1 c1", "d1 e1", []api.Delta{removed("c", 1), renamed("d", "a", 1), renamed("e", "b", 1)}},
		{"a1 b1", "c1 d1 e1", []api.Delta{renamed("c", "a", 1), renamed("d", "b", 1), added("e", 1)}},
		{"a1 b2", "c2 d1", []api.Delta{renamed("c", "b", 2), renamed("d", "a", 1)}},
		{"a1 b2 c3", "d3 e2 f1", []api.Delta{renamed("d", "c", 3), renamed("e", "b", 2), renamed("f", "a", 1)}},
		{"a1 b2 c1 d2", "e2 f2 g1 h1", []api.Delta{renamed("e", "b", 2), renamed("f", "d", 2), renamed("g", "a", 1), renamed("h", "c", 1)}},
		{"a/b1", "a1", []api.Delta{renamed("a", "a/b", 1)}}, // a directory becomes a file
		{"a1", "a/b1", []api.Delta{renamed("a/b", "a", 1)}},
		{"a/b1", "a2", []api.Delta{added("a", 2), removed("a/b", 1)}},
		{"a1", "a/b2", []api.Delta{removed("a", 1), added("a/b", 2)}},
		{"a1", "a/b2 a/c3 b1", []api.Delta{added("a/b", 2), added("a/c", 3), renamed("b", "a", 1)}},
		{"a/x1 a/y2", "b/x1 b/y2", []api.Delta{renamed("b/x", "a/x", 1), renamed("b/y", "a/y", 2)}}, // a directory is renamed
		{"a-1 a/b1", "b1", []api.Delta{removed("a-", 1), renamed("b", "a/b", 1)}},                   // the order of paths, not of their bytes
		{"c1", "a-1 a/b1", []api.Delta{renamed("a/b", "c", 1), added("a-", 1)}},
		{"a/c1 a-2 a/b/d3", "", []api.Delta{removed("a/b/d", 3), removed("a/c", 1), removed("a-", 2)}},
		{"a/b/c1 a/b/d2 e/f3", "a/b/c1 a/b/d3 e/f3", []api.Delta{modified("a/b/d", 2, 3)}},
		{"a/b1 c/d2", "a/b2 c/d2 e3", []api.Delta{modified("a/b", 1, 2), added("e", 3)}},
	} {
		s := withTexts(t, "x", "y", "z")
		a, b := written(t, s, c.a), written(t, s, c.b)
		hasDiff(t, s, a, b, c.want...)
		hasDiff(t, s, a, a)
		hasDiff(t, s, b, b)
	}
}

// written builds the tree of paths that are followed by the digit of their contents.
func written(t *testing.T, s *store.Store, list string) int {
	t.Helper()
	var files []api.File
	for _, word := range strings.Fields(list) {
		last := len(word) - 1
		files = append(files, file(word[:last], int(word[last]-'0')))
	}
	return build(t, s, files...)
}

func TestP5_6DiffWithoutATree(t *testing.T) {
	s, root := example(t)
	empty := build(t, s)
	for _, none := range append(noTrees(s.Many()), 2, empty) {
		hasDiff(t, s, none, root, added("a", 2), added("b/a/d", 2), added("b/c", 1))
		hasDiff(t, s, root, none, removed("a", 2), removed("b/a/d", 2), removed("b/c", 1))
		for _, other := range append(noTrees(s.Many()), 2, empty) {
			hasDiff(t, s, none, other)
		}
		for _, of := range []*store.Store{nil, {}, store.New()} {
			hasDiff(t, of, none, root)
			hasDiff(t, of, root, none)
		}
	}
	hasDiff(t, nil, root, 4)
}

func TestP5_6DiffOfRootsWithEqualFiles(t *testing.T) {
	s, root := example(t)
	hasDiff(t, s, root, root)
	hasDiff(t, s, 3, 3)
	hasDiff(t, s, root, 4, renamed("a/d", "a", 2), removed("b/a/d", 2), renamed("c", "b/c", 1))
}

func TestP5_6DiffOfManyRenamedFiles(t *testing.T) {
	s := withTexts(t, "x", "y", "z")
	var old, now []api.File
	var want []api.Delta
	for i := range 1000 {
		name := strconv.Itoa(1000 + i)
		old = append(old, file("a/"+name, 1+i%3))
		now = append(now, file("b/"+name, 1+i%3))
		want = append(want, renamed("b/"+name, "a/"+name, 1+i%3))
	}
	hasDiff(t, s, build(t, s, old...), build(t, s, now...), want...)
	hasDiff(t, s, build(t, s, old[300:]...), build(t, s, now[:700]...), diffByWords(s, build(t, s, old[300:]...), build(t, s, now[:700]...))...)
}

func TestP5_6DiffOfDeepTrees(t *testing.T) {
	s := withTexts(t, "x")
	a, b := deepTree(t, s, 40000), deepTree(t, s, 40001)
	hasDiff(t, s, a, b, renamed(strings.Repeat("d/", 40001)+"f", strings.Repeat("d/", 40000)+"f", 1))
	hasDiff(t, s, b, a, renamed(strings.Repeat("d/", 40000)+"f", strings.Repeat("d/", 40001)+"f", 1))
}

func TestP5_6DiffReturnsNewMemory(t *testing.T) {
	s, root := example(t)
	first, second := Diff(s, 0, root), Diff(s, 0, root)
	first[0].Path, first[1] = "q", api.Delta{}
	_ = append(first[:1], api.Delta{})
	if !slices.Equal(second, Diff(s, 0, root)) || second[0] != added("a", 2) {
		t.Errorf("%v after a change of another result", second)
	}
}

func TestP5_6RandomTreesFollowTheWords(t *testing.T) {
	kinds := map[int]int{}
	for seed := range uint32(3000) {
		s := withTexts(t, "x", "y", "z")
		below, word := samples.Below(seed), samples.Words(seed, "ab-/")
		a, b := 0, 0
		for range below(25) {
			path, id := word(5), 1+below(3)
			for _, side := range []*int{&a, &b} {
				if next, e := Put(s, *side, path, id); e == api.OK && below(3) > 0 {
					*side = next
				}
				if below(6) == 0 {
					path = word(5)
				}
				if below(6) == 0 {
					id = 1 + below(3)
				}
			}
		}
		deltas, want := Diff(s, a, b), diffByWords(s, a, b)
		if !slices.Equal(deltas, want) {
			t.Fatalf("seed %d: Diff of %v and %v: %v; want %v", seed, Files(s, a), Files(s, b), deltas, want)
		}
		for _, delta := range deltas {
			kinds[delta.Kind]++
		}
	}
	for kind := 1; kind <= 4; kind++ {
		if kinds[kind] < 500 {
			t.Errorf("only %d deltas of kind %d", kinds[kind], kind)
		}
	}
}

func TestP5_7DiffOfTreesWithMoreFilesThanCanBeCounted(t *testing.T) {
	s := withTexts(t, "x", "y")
	root := wideTree(t, s)
	path, other := strings.Repeat("e/", 19)+"e", strings.Repeat("j/", 19)+"j"
	changed, _ := Put(s, root, path, 2)
	less, _ := Remove(s, changed, other)
	more, _ := Put(s, root, "k", 1)
	hasDiff(t, s, root, root)
	hasDiff(t, s, root, changed, modified(path, 1, 2))
	hasDiff(t, s, root, less, modified(path, 1, 2), removed(other, 1))
	hasDiff(t, s, less, more, modified(path, 2, 1), added(other, 1), added("k", 1))
}

func TestP5_7ChangesCanBeLeftEarly(t *testing.T) {
	s, root := example(t)
	for wanted := 1; wanted <= 3; wanted++ {
		seen := 0
		for range changes(s, nothing, root) {
			seen++
			if seen == wanted {
				break
			}
		}
		if seen != wanted {
			t.Errorf("%d of %d changes", seen, wanted)
		}
	}
}
