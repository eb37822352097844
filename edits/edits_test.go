package edits

import (
	"slices"
	"strconv"
	"strings"
	"testing"

	"mainline/api"
	"mainline/paths"
	"mainline/samples"
	"mainline/store"
)

// touches checks what Touched returns, and that it keeps its argument.
func touches(t *testing.T, l []api.Edit, want ...string) {
	t.Helper()
	kept := slices.Clone(l)
	if touched := Touched(l); !slices.Equal(touched, want) {
		t.Fatalf("Touched(%s): %s; want %s", brief(l), brief(touched), brief(want))
	}
	if !slices.Equal(l, kept) {
		t.Fatalf("Touched changes its argument: %s", brief(l))
	}
}

func TestP6_2Touched(t *testing.T) {
	touches(t, nil)
	touches(t, list())
	touches(t, list(written("a", "x")), "a")
	touches(t, list(deleted("b"), written("a", "x")), "a", "b")
	touches(t, list(moved("b", "a")), "a", "b")
	touches(t, list(moved("a", "b")), "a", "b")
	touches(t, list(written("a", "x"), deleted("a"), written("a", "y"), moved("a", "a")), "a")
	touches(t, list(moved("b", "c"), moved("c", "b"), moved("b", "a"), deleted("c")), "a", "b", "c")
	// The order is that of paths, not that of bytes.
	touches(t, list(written("a-b", ""), written("a/b", ""), written("a", ""), written("a.c", ""), moved("a/b/c", "a-")), "a", "a/b", "a/b/c", "a-", "a-b", "a.c")
}

func TestP6_2FieldToOfOtherKinds(t *testing.T) {
	for _, kind := range []int{1, 2, 0, 4, 7, -3, 1<<32 + 3} {
		touches(t, list(api.Edit{Kind: kind, Path: "b", To: "a"}), "b")
	}
	touches(t, list(api.Edit{Kind: 3, Path: "b", To: ""}), "", "b")
}

func TestP6_2PathsThatAreNotValid(t *testing.T) {
	touches(t, list(written("", ""), deleted("/"), moved("//", ".."), moved("", "a//b"), api.Edit{Path: "\xff"}, deleted("a/"), deleted("a")), "", "/", "//", "..", "a", "a/", "a//b", "\xff")
	long := strings.Repeat("n", 300)
	touches(t, list(moved(long, "n"), written(long, strings.Repeat("t", 70000))), "n", long)
}

func TestP6_2RandomEditsFollowTheWords(t *testing.T) {
	for seed := range uint32(2000) {
		l := randomEdits(seed)(12)
		touches(t, l, touchedByWords(l)...)
	}
	var many []api.Edit
	var want []string
	for i := range 3000 {
		path := "f" + strconv.Itoa(10000-i)
		many = append(many, deleted(path), written(path, ""))
		want = append(want, path)
	}
	slices.SortFunc(want, strings.Compare)
	touches(t, many, want...)
}

// leadTo checks that Between returns these edits.
func leadTo(t *testing.T, s *store.Store, a, b int, want ...api.Edit) {
	t.Helper()
	if l := Between(s, a, b); !slices.Equal(l, want) {
		t.Fatalf("Between(%d, %d): %s; want %s", a, b, brief(l), brief(want))
	}
}

func TestP6_3BetweenKnownTrees(t *testing.T) {
	for _, c := range []struct {
		a, b texts
		want []api.Edit
	}{
		{texts{}, texts{}, nil},
		{texts{"a": "1"}, texts{"a": "1"}, nil},
		{texts{}, texts{"a": "1"}, list(written("a", "1"))},
		{texts{"a": "1"}, texts{}, list(deleted("a"))},
		{texts{"a": "1"}, texts{"a": "2"}, list(written("a", "2"))},
		{texts{"a": "1"}, texts{"a": ""}, list(written("a", ""))},
		{texts{"a": "1"}, texts{"b": "1"}, list(deleted("a"), written("b", "1"))},
		{texts{"a": "1"}, texts{"b": "2"}, list(deleted("a"), written("b", "2"))},
		{texts{"b": "1"}, texts{"a": "1"}, list(deleted("b"), written("a", "1"))},
		{texts{"a": "1", "b": "2"}, texts{"a": "2", "b": "1"}, list(written("a", "2"), written("b", "1"))},
		{texts{"d/e": "1"}, texts{"d": "1"}, list(deleted("d/e"), written("d", "1"))},
		{texts{"d": "1"}, texts{"d/e": "2"}, list(deleted("d"), written("d/e", "2"))},
		// Deletes come in the order of the differences: that of a renamed file has the place of its new path.
		{texts{"a": "1", "b": "2"}, texts{"c": "1"}, list(deleted("b"), deleted("a"), written("c", "1"))},
		{texts{"m": "1", "z": "2"}, texts{"a": "2", "n": "3"}, list(deleted("z"), deleted("m"), written("a", "2"), written("n", "3"))},
		{texts{"a/b": "1", "a-": "2", "k": "5", "z": "4"}, texts{"a/b": "3", "a/c": "4", "k": "5"}, list(deleted("z"), deleted("a-"), written("a/b", "3"), written("a/c", "4"))},
		{texts{"a": "1", "b": "1", "c": "1"}, texts{"d": "1", "e": "1"}, list(deleted("c"), deleted("a"), deleted("b"), written("d", "1"), written("e", "1"))},
	} {
		s := store.New()
		a, b := rootOf(t, s, c.a), rootOf(t, s, c.b)
		many := s.Many()
		leadTo(t, s, a, b, c.want...)
		leadTo(t, s, a, a)
		leadTo(t, s, b, b)
		if s.Many() != many {
			t.Errorf("Between adds %d objects", s.Many()-many)
		}
		if root, _, e := Apply(s, a, Between(s, a, b)); root != b || e != api.OK {
			t.Errorf("Apply of Between(%q, %q): %d, error %d; want %d", c.a, c.b, root, e, b)
		}
	}
}

func TestP6_3RootsThatAreNoTrees(t *testing.T) {
	s, root := example(t)
	blob, _ := s.Blob("1")
	empty, _ := s.Tree(nil)
	for _, none := range append(noTrees(s.Many()), blob, empty) {
		leadTo(t, s, none, root, written("a/x", "1"), written("b", "2"))
		leadTo(t, s, root, none, deleted("a/x"), deleted("b"))
		leadTo(t, s, none, blob)
		leadTo(t, nil, none, root)
		leadTo(t, nil, root, none)
		leadTo(t, &store.Store{}, none, root)
	}
	leadTo(t, nil, root, root)
}

func TestP6_3MoreThanMaxEdits(t *testing.T) {
	s := store.New()
	files, other := texts{}, texts{}
	var want []api.Edit
	for i := range 1500 {
		path := "d" + strconv.Itoa(i/100) + "/f" + strconv.Itoa(i)
		files[path], other["x"+path] = strconv.Itoa(i), "-"+strconv.Itoa(i)
		want = append(want, deleted(path), written("x"+path, "-"+strconv.Itoa(i)))
	}
	slices.SortFunc(want, func(a, b api.Edit) int {
		if a.Kind != b.Kind {
			return b.Kind - a.Kind
		}
		if paths.Less(a.Path, b.Path) {
			return -1
		}
		return 1
	})
	a, b := rootOf(t, s, files), rootOf(t, s, other)
	leadTo(t, s, a, b, want...)
	fails(t, s, a, want, 0, 2)
	root, _, e := Apply(s, a, want[:1000])
	root, _, e2 := Apply(s, root, want[1000:2000])
	root, _, e3 := Apply(s, root, want[2000:])
	if root != b || e != api.OK || e2 != api.OK || e3 != api.OK {
		t.Errorf("%d, errors %d, %d, %d; want %d", root, e, e2, e3, b)
	}
}

// randomFiles returns the files that some edits make.
func randomFiles(edits func(int) []api.Edit) texts {
	files := texts{}
	for _, edit := range edits(20) {
		applyOneByWords(files, edit)
	}
	return files
}

func TestP6_3RandomTreesFollowTheWords(t *testing.T) {
	for seed := range uint32(2000) {
		s, edits := store.New(), randomEdits(seed)
		a, b := rootOf(t, s, randomFiles(edits)), rootOf(t, s, randomFiles(edits))
		leadTo(t, s, a, b, betweenByWords(s, a, b)...)
	}
}

func TestP6_6ApplyOfBetween(t *testing.T) {
	for seed := range uint32(2000) {
		s, edits := store.New(), randomEdits(seed)
		from, to := randomFiles(edits), randomFiles(edits)
		a, b := rootOf(t, s, from), rootOf(t, s, to)
		if root, i, e := Apply(s, a, Between(s, a, b)); root != b || i != 0 || e != api.OK {
			t.Fatalf("Apply of Between(%q, %q): %d, %d, error %d; want %d", from, to, root, i, e, b)
		}
	}
}

func TestP6_6JoinedLists(t *testing.T) {
	possible := 0
	for seed := range uint32(3000) {
		s, edits := store.New(), randomEdits(seed)
		root := rootOf(t, s, randomFiles(edits))
		first, second := edits(3), edits(3)
		middle, i, e := Apply(s, root, first)
		last := 0
		if e == api.OK {
			last, i, e = Apply(s, middle, second)
			i += len(first)
		}
		if e == api.OK {
			possible++
			i = 0
		}
		if joined, j, e2 := Apply(s, root, slices.Concat(first, second)); joined != last || j != i || e2 != e {
			t.Fatalf("Apply of %s and then %s: %d, %d, error %d; joined: %d, %d, error %d", brief(first), brief(second), last, i, e, joined, j, e2)
		}
	}
	if possible < 300 {
		t.Errorf("only %d lists were possible", possible)
	}
}

func TestP6_3ResultsAreNewMemory(t *testing.T) {
	s, root := example(t)
	l, again := Between(s, 0, root), Between(s, 0, root)
	l[0] = deleted("n")
	touched, touchedAgain := Touched(again), Touched(again)
	touched[0] = "n"
	decoded, _ := Decode(Encode(again))
	decoded[0] = deleted("n")
	if again[0] != written("a/x", "1") || touchedAgain[0] != "a/x" {
		t.Errorf("%v, %v", again, touchedAgain)
	}
}

func TestP1ManyCallsWithOddArguments(t *testing.T) {
	word, below := samples.Words(5, "\x00\x01\x02\x04\x80\xff/a"), samples.Below(5)
	s := store.New()
	for range 20000 {
		numbers := append(noTrees(s.Many()), 1, 2, 3)
		a, b := numbers[below(len(numbers))], numbers[below(len(numbers))]
		l := make([]api.Edit, below(3))
		for i := range l {
			l[i] = api.Edit{Kind: kindsAtTheLimits[below(8)], Path: word(3), To: word(3), Text: word(3)}
		}
		of := []*store.Store{nil, {}, s}[below(3)]
		root, i, e := Apply(of, a, l)
		if e != api.OK && root != 0 || e == api.OK && (root == 0 || i != 0) || i < 0 || i > len(l) {
			t.Fatalf("Apply(%d, %s): %d, %d, error %d", a, brief(l), root, i, e)
		}
		Between(of, a, b)
		Touched(l)
		Decode(word(20))
	}
}
