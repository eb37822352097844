package edits

import (
	"maps"
	"math"
	"slices"
	"strconv"
	"strings"
	"testing"

	"mainline/api"
	"mainline/samples"
	"mainline/store"
	"mainline/tree"
)

// list returns the edits as a list.
func list(l ...api.Edit) []api.Edit {
	return l
}

func TestP6_1Examples(t *testing.T) {
	s, root := example(t)
	gives(t, s, root, list(written("a/y", "3"), moved("b", "c/d")), texts{"a/x": "1", "a/y": "3", "c/d": "2"})
	gives(t, s, root, list(deleted("a/x"), written("a", "3")), texts{"a": "3", "b": "2"})
	fails(t, s, root, list(written("b/c", "3")), 0, 13)
	fails(t, s, root, list(deleted("a/x"), deleted("a/x")), 1, 12)
	fails(t, s, root, list(moved("b", "b")), 0, 11)
	gives(t, s, root, list(moved("b", "b/c")), texts{"a/x": "1", "b/c": "2"})
}

func TestP6_1NoEdits(t *testing.T) {
	s, root := example(t)
	for _, none := range [][]api.Edit{nil, {}} {
		if next, i, e := Apply(s, root, none); next != root || i != 0 || e != api.OK {
			t.Errorf("Apply: %d, %d, error %d; want %d", next, i, e, root)
		}
		gives(t, s, root, none, texts{"a/x": "1", "b": "2"})
	}
}

func TestP6_1Write(t *testing.T) {
	s, root := example(t)
	for _, c := range []struct {
		edits []api.Edit
		want  texts
	}{
		{list(written("b", "3")), texts{"a/x": "1", "b": "3"}},
		{list(written("b", "2")), texts{"a/x": "1", "b": "2"}},
		{list(written("b", "")), texts{"a/x": "1", "b": ""}},
		{list(written("c", "2")), texts{"a/x": "1", "b": "2", "c": "2"}},
		{list(written("A", "\x00\xff\n")), texts{"a/x": "1", "b": "2", "A": "\x00\xff\n"}},
		{list(written("a/x", "3")), texts{"a/x": "3", "b": "2"}},
		{list(written("a/w", "3")), texts{"a/x": "1", "a/w": "3", "b": "2"}},
		{list(written("a/c/d/e", "3")), texts{"a/x": "1", "a/c/d/e": "3", "b": "2"}},
		{list(written("c/d/e", "3"), written("c/d/f", "4"), written("c/g", "5")), texts{"a/x": "1", "b": "2", "c/d/e": "3", "c/d/f": "4", "c/g": "5"}},
		{list(written("c", "3"), written("c", "4")), texts{"a/x": "1", "b": "2", "c": "4"}},
		{list(written("a-", "3"), written("a.b/x", "4"), written("ab", "5")), texts{"a/x": "1", "b": "2", "a-": "3", "a.b/x": "4", "ab": "5"}},
	} {
		gives(t, s, root, c.edits, c.want)
	}
}

func TestP6_1Delete(t *testing.T) {
	s, root := example(t)
	gives(t, s, root, list(deleted("b")), texts{"a/x": "1"})
	gives(t, s, root, list(deleted("a/x")), texts{"b": "2"})
	empty := gives(t, s, root, list(deleted("a/x"), deleted("b")), texts{})
	if entries, ok := s.Entries(empty); !ok || len(entries) != 0 {
		t.Errorf("no files: %v, %v", entries, ok)
	}
	gives(t, s, root, list(deleted("b"), written("b", "3")), texts{"a/x": "1", "b": "3"})
	gives(t, s, root, list(written("c/d/e/f", ""), deleted("c/d/e/f")), texts{"a/x": "1", "b": "2"})
	gives(t, s, root, list(written("c/d/e/f", ""), written("c/g", "3"), deleted("c/d/e/f")), texts{"a/x": "1", "b": "2", "c/g": "3"})
}

func TestP6_1Move(t *testing.T) {
	s, root := example(t)
	for _, c := range []struct {
		edits []api.Edit
		want  texts
	}{
		{list(moved("b", "c")), texts{"a/x": "1", "c": "2"}},
		{list(moved("b", "a/b")), texts{"a/x": "1", "a/b": "2"}},
		{list(moved("a/x", "a/y")), texts{"a/y": "1", "b": "2"}},
		{list(moved("a/x", "x")), texts{"x": "1", "b": "2"}},
		{list(moved("a/x", "c/d/e")), texts{"c/d/e": "1", "b": "2"}},
		{list(moved("a/x", "a")), texts{"a": "1", "b": "2"}},
		{list(moved("a/x", "a/x/y/z")), texts{"a/x/y/z": "1", "b": "2"}},
		{list(moved("b", "b/b/b")), texts{"a/x": "1", "b/b/b": "2"}},
		{list(moved("a/x", "a/x/x"), moved("a/x/x", "a")), texts{"a": "1", "b": "2"}},
		{list(moved("b", "c"), moved("a/x", "b"), moved("c", "a/x")), texts{"a/x": "2", "b": "1"}},
		{list(moved("b", "c"), moved("c", "b")), texts{"a/x": "1", "b": "2"}},
		{list(moved("b", "c"), written("b", "3")), texts{"a/x": "1", "b": "3", "c": "2"}},
		{list(written("b", "3"), moved("b", "c")), texts{"a/x": "1", "c": "3"}},
	} {
		gives(t, s, root, c.edits, c.want)
	}
}

func TestP6_1FieldsThatAKindDoesNotMention(t *testing.T) {
	s, root := example(t)
	long := strings.Repeat("t", 65537)
	for _, to := range []string{"", "a", "b", "b/c", "../x", long} {
		write, remove := written("c", "3"), deleted("b")
		write.To, remove.To, remove.Text = to, to, long
		gives(t, s, root, list(write, remove), texts{"a/x": "1", "c": "3"})
	}
	move := moved("b", "c")
	move.Text = long
	gives(t, s, root, list(move), texts{"a/x": "1", "c": "2"})
}

// TestP6_1Errors has for each edit that is not possible the files that are there.
func TestP6_1Errors(t *testing.T) {
	long, wide := strings.Repeat("t", 65537), strings.Repeat("n", 201)
	deep := strings.Repeat("d/", 20) + "f"
	there := texts{"a/x": "1", "b": "2", "c/d/e": "3"}
	for _, c := range []struct {
		edit api.Edit
		want api.Errno
	}{
		{written("", "1"), 10}, {written("/", "1"), 10}, {written("a//b", "1"), 10}, {written("a/", "1"), 10}, {written("/a", "1"), 10}, {written("..", "1"), 10},
		{written("c/./d", "1"), 10}, {written("f*", "1"), 10}, {written("b/..", "1"), 10}, {written(wide, "1"), 10}, {written(deep, "1"), 10},
		{written("b", long), 2}, {written("n", long), 2},
		{written("a", "1"), 13}, {written("c", "1"), 13}, {written("c/d", "1"), 13},
		{written("b/c", "1"), 13}, {written("b/b", "1"), 13}, {written("a/x/y", "1"), 13}, {written("a/x/y/z", "1"), 13}, {written("c/d/e/f", "1"), 13},
		{deleted(""), 10}, {deleted("a//x"), 10}, {deleted("../b"), 10}, {deleted("b/"), 10}, {deleted(wide), 10}, {deleted(deep), 10},
		{deleted("a"), 13}, {deleted("c"), 13}, {deleted("c/d"), 13}, {deleted("b/c"), 13}, {deleted("a/x/y"), 13}, {deleted("c/d/e/f/g"), 13},
		{deleted("d"), 12}, {deleted("a/y"), 12}, {deleted("c/e"), 12}, {deleted("d/e/f"), 12}, {deleted("B"), 12},
		{moved("", "n"), 10}, {moved("a//x", "n"), 10}, {moved("a", "n"), 13}, {moved("b/c", "n"), 13}, {moved("d", "n"), 12}, {moved("a/y", "n"), 12},
		{moved("b", ""), 10}, {moved("b", "/n"), 10}, {moved("b", "b//c"), 10}, {moved("b", wide), 10}, {moved("b", deep), 10},
		{moved("b", "a/x"), 11}, {moved("a/x", "b"), 11}, {moved("b", "b"), 11}, {moved("a/x", "a/x"), 11}, {moved("c/d/e", "c/d/e"), 11},
		{moved("b", "a"), 13}, {moved("b", "c/d"), 13}, {moved("a/x", "c"), 13}, {moved("a/x", "b/n"), 13}, {moved("b", "a/x/n"), 13}, {moved("b", "c/d/e/f/g"), 13},
		{api.Edit{Kind: 0, Path: "b"}, 1}, {api.Edit{Kind: 4, Path: "b"}, 1}, {api.Edit{Kind: -1, Path: "b"}, 1}, {api.Edit{Kind: -3, Path: "b", To: "n"}, 1},
		{api.Edit{Kind: 7}, 1}, {api.Edit{Kind: math.MaxInt, Path: "n"}, 1}, {api.Edit{Kind: math.MinInt}, 1}, {api.Edit{Kind: 1<<32 + 1, Path: "n"}, 1},
		// several errors of a row: the first one
		{written("a//b", long), 10}, {written("b/", long), 10}, {written(wide, long), 10},
		{written("a", long), 2}, {written("b/c", long), 2},
		{moved("", ""), 10}, {moved("../b", "b"), 10}, {moved("a//x", "a"), 10},
		{moved("a", ""), 13}, {moved("b/c", ".."), 13}, {moved("a", "b"), 13}, {moved("a", "a"), 13}, {moved("a", "b/c"), 13},
		{moved("d", ""), 12}, {moved("d", "b"), 12}, {moved("d", "d"), 12}, {moved("d", "a"), 12}, {moved("d", "b/c"), 12},
		{api.Edit{Kind: 9, Path: "..", To: "..", Text: long}, 1},
	} {
		s := store.New()
		root := rootOf(t, s, there)
		fails(t, s, root, list(c.edit), 0, c.want)
		fails(t, s, root, list(written("b", "4"), written("z/z", "5"), c.edit, api.Edit{}), 2, c.want)
	}
}

func TestP6_1ObstructedAtAnyBeginning(t *testing.T) {
	names := strings.Split("d/e/f/g/h/i/j/k/l/m/n/o/p/q/r/s/t/u/v/w", "/")
	path := strings.Join(names, "/")
	for length := 1; length < len(names); length++ {
		s := store.New()
		at := strings.Join(names[:length], "/")
		root := rootOf(t, s, texts{at: "1", "b": "2"})
		for _, edit := range []api.Edit{written(path, ""), deleted(path), moved(path, "c"), moved("b", path)} {
			fails(t, s, root, list(edit), 0, 13)
		}
		gives(t, s, root, list(deleted(at), written(path, "3")), texts{path: "3", "b": "2"})
		below := gives(t, s, root, list(moved(at, path)), texts{path: "1", "b": "2"})
		for _, edit := range []api.Edit{written(at, ""), deleted(at), moved(at, "c"), moved("b", at)} {
			fails(t, s, below, list(edit), 0, 13)
		}
		gives(t, s, below, list(moved(path, at)), texts{at: "1", "b": "2"})
	}
}

func TestP6_1DirectoriesBecomeFilesAndTheReverse(t *testing.T) {
	s := store.New()
	root := rootOf(t, s, texts{"d/e/f": "1", "d/e/g": "2", "d/h": "3"})
	fails(t, s, root, list(deleted("d/e/f"), written("d/e", "4")), 1, 13)
	gives(t, s, root, list(deleted("d/e/f"), deleted("d/e/g"), written("d/e", "4")), texts{"d/e": "4", "d/h": "3"})
	gives(t, s, root, list(deleted("d/e/f"), moved("d/e/g", "d/e")), texts{"d/e": "2", "d/h": "3"})
	fails(t, s, root, list(moved("d/h", "h"), deleted("d/e/f"), moved("d/e/g", "g"), written("d/e/f", "4"), moved("h", "d")), 4, 13)
	gives(t, s, root, list(moved("d/h", "h"), deleted("d/e/f"), moved("d/e/g", "g"), moved("h", "d")), texts{"d": "3", "g": "2"})
	gives(t, s, root, list(deleted("d/h"), written("d/h/i/j", "4"), deleted("d/h/i/j"), written("d/h/i", "5")), texts{"d/e/f": "1", "d/e/g": "2", "d/h/i": "5"})
	// A directory that is gone does not come back with what it had.
	gives(t, s, root, list(deleted("d/e/f"), deleted("d/e/g"), deleted("d/h"), written("d/e/h", "4")), texts{"d/e/h": "4"})
	// What is not there any more obstructs nothing and is no directory.
	fails(t, s, root, list(deleted("d/e/f"), deleted("d/e/g"), deleted("d/e")), 2, 12)
	fails(t, s, root, list(deleted("d/h"), deleted("d/h/i")), 1, 12)
	fails(t, s, root, list(moved("d/h", "h"), moved("d/h/i", "j")), 1, 12)
}

func TestP6_1TheFirstEditThatIsNotPossible(t *testing.T) {
	s, root := example(t)
	var l []api.Edit
	for i := range 1000 {
		l = append(l, written("f"+strconv.Itoa(i), ""))
	}
	for _, at := range []int{0, 1, 2, 500, 998, 999} {
		wrong := slices.Clone(l)
		wrong[at] = deleted("n")
		fails(t, s, root, wrong, at, 12)
		for later := at + 1; later < len(wrong); later += 100 {
			wrong[later] = api.Edit{}
		}
		fails(t, s, root, wrong, at, 12)
		wrong[at] = api.Edit{Kind: 4}
		fails(t, s, root, wrong, at, 1)
	}
}

func TestP6_1ManyEdits(t *testing.T) {
	s, root := example(t)
	var l []api.Edit
	want := texts{"a/x": "1", "b": "2"}
	for i := range 1000 {
		path := "d" + strconv.Itoa(i%7) + "/f" + strconv.Itoa(i)
		l = append(l, written(path, strconv.Itoa(i)))
		want[path] = strconv.Itoa(i)
	}
	gives(t, s, root, l, want)
	for _, edit := range []api.Edit{deleted("b"), deleted("n"), {}} {
		fails(t, s, root, append(slices.Clone(l), edit), 0, 2)
		fails(t, s, root, append(list(edit), l...), 0, 2)
		fails(t, nil, root, append(list(edit), l...), 0, 1)
	}
	fails(t, s, -1, make([]api.Edit, 5000), 0, 2)
}

func TestP6_1LongTexts(t *testing.T) {
	s, root := example(t)
	most := strings.Repeat("t", 65536)
	gives(t, s, root, list(written("b", most), moved("b", "c")), texts{"a/x": "1", "c": most})
	fails(t, s, root, list(written("b", most), written("b", most+"t")), 1, 2)
}

func TestP6_1LongPaths(t *testing.T) {
	s, root := example(t)
	deep, long := strings.Repeat("d/", 19)+"f", strings.Repeat("n", 200)
	gives(t, s, root, list(written(deep, "3"), moved("b", long)), texts{"a/x": "1", deep: "3", long: "2"})
	gives(t, s, root, list(moved("b", deep), written(long, "3"), deleted(long)), texts{"a/x": "1", deep: "2"})
}

// TestP6_1LargeTrees has directories of all sizes, so that a change of the largest one costs much.
func TestP6_1LargeTrees(t *testing.T) {
	for _, perDirectory := range []int{100, 99000} {
		s := store.New()
		id, _ := s.Blob("x")
		var files []api.File
		for i := range 99000 {
			files = append(files, api.File{Path: "d" + strconv.Itoa(i/perDirectory) + "/f" + strconv.Itoa(i), Id: id})
		}
		root, e := tree.Build(s, files)
		if e != api.OK {
			t.Fatalf("Build: error %d", e)
		}
		var adding, taking []api.Edit
		for i := range 1000 {
			path := "d" + strconv.Itoa(i*99/perDirectory) + "/n" + strconv.Itoa(i)
			adding = append(adding, written(path, "x"))
			taking = append(taking, deleted(path))
			files = append(files, api.File{Path: path, Id: id})
		}
		want, e := tree.Build(s, files)
		if next, i, e2 := Apply(s, root, adding); next != want || i != 0 || e != api.OK || e2 != api.OK {
			t.Errorf("Apply to 99000 files: %d, %d, errors %d, %d; want %d", next, i, e, e2, want)
		}
		if next, i, e := Apply(s, want, taking); next != root || i != 0 || e != api.OK {
			t.Errorf("Apply to 100000 files: %d, %d, error %d; want %d", next, i, e, root)
		}
	}
}

func TestP6_1RootsThatAreNoTrees(t *testing.T) {
	s, _ := example(t)
	blob, _ := s.Blob("1")
	empty, _ := s.Tree(nil)
	for _, root := range append(noTrees(s.Many()), blob, empty) {
		gives(t, s, root, nil, texts{})
		gives(t, s, root, list(written("c/d", "3"), written("a", "")), texts{"c/d": "3", "a": ""})
		fails(t, s, root, list(deleted("b")), 0, 12)
		fails(t, s, root, list(moved("b", "c")), 0, 12)
	}
	for _, root := range append(noTrees(5), 1) {
		var zero store.Store
		gives(t, &zero, root, list(written("c/d", "3")), texts{"c/d": "3"})
		gives(t, &store.Store{}, root, nil, texts{})
		gives(t, store.New(), root, nil, texts{})
	}
}

func TestP6_1NilStore(t *testing.T) {
	for _, root := range append(noTrees(5), 1, 2) {
		for _, l := range [][]api.Edit{nil, {}, {written("a", "1")}, {deleted("a")}, {{}}, make([]api.Edit, 1000), make([]api.Edit, 1001)} {
			fails(t, nil, root, l, 0, 1)
		}
	}
}

// TestP6_1TreesOfTheStoreRemain applies edits and compares all objects that were there.
func TestP6_1TreesOfTheStoreRemain(t *testing.T) {
	s := store.New()
	root := rootOf(t, s, texts{"a/b/c": "1", "a/b/d": "2", "a/e": "3", "f": "4"})
	many := s.Many()
	before := make([][]api.Entry, many+1)
	trees := make([]bool, many+1)
	for id := range before {
		before[id], trees[id] = s.Entries(id)
	}
	for _, l := range [][]api.Edit{
		{written("a/b/c", "9"), deleted("a/b/d"), moved("a/e", "a/b/e")},
		{deleted("a/b/c"), deleted("a/b/d"), written("a/b", "8")},
		{moved("f", "a/b/f"), written("f/g", "7"), deleted("n")},
	} {
		kept := slices.Clone(l)
		Apply(s, root, l)
		if !slices.Equal(l, kept) {
			t.Errorf("Apply changes its argument: %v", l)
		}
		for id := range before {
			if entries, ok := s.Entries(id); ok != trees[id] || !slices.Equal(entries, before[id]) {
				t.Errorf("tree %d: %v, %v; want %v", id, entries, ok, before[id])
			}
		}
	}
}

// randomEdits returns a function that makes lists of edits of few paths, so that many of them are possible.
func randomEdits(seed uint32) func(most int) []api.Edit {
	below, name, word := samples.Below(seed), samples.Words(seed+1<<20, "ab"), samples.Words(seed+2<<20, "ab/.")
	path := func() string {
		if below(20) == 0 {
			return word(4)
		}
		return strings.Join(strings.Split(name(2)+"a", ""), "/")
	}
	return func(most int) []api.Edit {
		l := make([]api.Edit, below(most+1))
		for i := range l {
			l[i] = api.Edit{Kind: []int{1, 1, 1, 2, 3, 3}[below(6)], Path: path(), To: path(), Text: word(1)}
			if below(40) == 0 {
				l[i].Kind = 4 * (below(3) - 1)
			}
		}
		return l
	}
}

func TestP6_1RandomEditsFollowTheWords(t *testing.T) {
	results := map[api.Errno]int{}
	for seed := range uint32(3000) {
		s := store.New()
		edits := randomEdits(seed)
		files, root := texts{}, 0
		for range 8 {
			l := edits(5)
			want, index, wantE := applyByWords(files, l)
			results[wantE]++
			if wantE != api.OK {
				fails(t, s, root, l, index, wantE)
				continue
			}
			root = gives(t, s, root, l, want)
			if !maps.Equal(filesByWords(s, root), want) {
				t.Fatalf("Apply(%s): %s; want %s", brief(l), brief(filesByWords(s, root)), brief(want))
			}
			files = want
		}
	}
	for _, e := range []api.Errno{api.OK, api.ErrArg, api.ErrPath, api.ErrExists, api.ErrMissing, api.ErrKind} {
		if results[e] < 300 {
			t.Errorf("only %d calls with the error %d", results[e], e)
		}
	}
}

func TestP1ApplyToTreesDeeperThanPaths(t *testing.T) {
	s := store.New()
	blob, _ := s.Blob("x")
	root, _ := s.Tree([]api.Entry{{Name: "d", Id: blob}})
	for range 60000 {
		root, _ = s.Tree([]api.Entry{{Name: "d", Dir: true, Id: root}})
	}
	path := strings.Repeat("d/", 19) + "d"
	fails(t, s, root, list(deleted(path)), 0, 13)
	next, _, e := Apply(s, root, list(written(path[:38]+"e", "y")))
	if last, _, again := Apply(s, next, list(deleted(path[:38]+"e"))); e != api.OK || again != api.OK || last != root {
		t.Errorf("%d, errors %d, %d; want %d", last, e, again, root)
	}
}

// TestP1ApplyToMoreFilesThanCanBeCounted has a tree with 10 entries, each of which is the same tree with 10 entries, and so on for 20 levels.
func TestP1ApplyToMoreFilesThanCanBeCounted(t *testing.T) {
	s := store.New()
	root, _ := s.Blob("x")
	for level := range 20 {
		var entries []api.Entry
		for _, name := range strings.Split("abcdefghij", "") {
			entries = append(entries, api.Entry{Name: name, Dir: level > 0, Id: root})
		}
		root, _ = s.Tree(entries)
	}
	path := strings.Repeat("c/", 19) + "c"
	fails(t, s, root, list(deleted(path), written("c", "")), 1, 13)
	next, _, e := Apply(s, root, list(moved(path, "k/l"), written("m", "z")))
	if e != api.OK {
		t.Fatalf("error %d", e)
	}
	if l := Between(s, root, next); !slices.Equal(l, list(deleted(path), written("k/l", "x"), written("m", "z"))) {
		t.Errorf("Between: %s", brief(l))
	}
	if last, _, e := Apply(s, next, list(deleted("m"), moved("k/l", path))); e != api.OK || last != root {
		t.Errorf("%d, error %d; want %d", last, e, root)
	}
}
