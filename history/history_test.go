package history

import (
	"math"
	"reflect"
	"slices"
	"testing"

	"mainline/api"
	"mainline/samples"
)

// example returns the history of the chapter's examples.
func example(t *testing.T) *History {
	t.Helper()
	return withParents(t, []int{1}, []int{1}, []int{2, 3}, []int{3})
}

func TestP8_1NewHasCommit1(t *testing.T) {
	for _, tree := range []int{0, 1, 7, -1, math.MaxInt, math.MinInt, 1<<32 + 3} {
		h := New(tree)
		if h.Many() != 1 {
			t.Fatalf("New(%d) has %d commits", tree, h.Many())
		}
		isCommit(t, h, 1, api.Commit{Tree: tree})
	}
}

func TestP8_1AddNumbersTheCommits(t *testing.T) {
	h := New(7)
	want := []api.Commit{
		{Tree: 7},
		{Parents: []int{1}, Tree: 7, Author: "ann", Changes: []int{1}},
		{Parents: []int{1}, Tree: 7, Author: "ann", Changes: []int{1}}, // equal commits are several ones
		{Parents: []int{2, 3}, Tree: 8, Author: "bob", Changes: []int{3, 1, 2, 1}, Emergency: true},
		{Parents: []int{4, 1}, Tree: -8},
		{Parents: []int{1, 4}, Author: "a b\x00\xff", Changes: []int{0, -1, math.MaxInt, math.MinInt}},
		{Parents: []int{6, 5}, Tree: math.MaxInt, Changes: []int{}},
		{Parents: []int{3}, Tree: math.MinInt, Emergency: true},
	}
	for _, c := range want[1:] {
		adds(t, h, c)
	}
	for i, c := range want {
		isCommit(t, h, i+1, c)
	}
}

func TestP8_1AddWithEachPairOfParents(t *testing.T) {
	for a := -1; a <= 7; a++ {
		for b := -1; b <= 7; b++ {
			h := withParents(t, []int{1}, []int{1}, []int{2, 3}, []int{3})
			c := api.Commit{Parents: []int{a, b}, Tree: 9, Author: "ann", Changes: []int{4}}
			if a < 1 || b < 1 || a > 5 || b > 5 || a == b {
				refuses(t, h, c)
				continue
			}
			adds(t, h, c)
			isCommit(t, h, 6, c)
		}
	}
}

func TestP8_1AddWithEachParent(t *testing.T) {
	for a := -1; a <= 7; a++ {
		h := example(t)
		c := api.Commit{Parents: []int{a}, Tree: 9}
		if a < 1 || a > 5 {
			refuses(t, h, c)
			continue
		}
		adds(t, h, c)
		isCommit(t, h, 6, c)
	}
}

func TestP8_1AddWithWrongParents(t *testing.T) {
	h := example(t)
	for _, ids := range [][]int{nil, {}, {2, 2}, {9}, {1, 2, 3}, {1, 2, 1}, {3, 3, 3}, {1, 1, 2}, {1, 2, 3, 4, 5}, {9, 9}, {0, 0}, {5, 6}, {6, 5}, make([]int, 1000)} {
		refuses(t, h, api.Commit{Parents: ids, Tree: 1, Author: "ann", Changes: []int{1}, Emergency: true})
	}
	for _, id := range noNumbers(5) {
		for _, ids := range [][]int{{id}, {id, 1}, {1, id}, {id, id}} {
			refuses(t, h, api.Commit{Parents: ids})
		}
	}
	adds(t, h, api.Commit{Parents: []int{5}})
}

// TestP8_1NoHistory checks what the chapter says of nil and zero histories.
func TestP8_1NoHistory(t *testing.T) {
	zero := &History{}
	for _, h := range []*History{nil, zero} {
		for _, ids := range [][]int{nil, {}, {0}, {1}, {-1}, {0, 1}, {1, 2}, {1, 1}, {1, 2, 3}} {
			refuses(t, h, api.Commit{Parents: ids, Tree: 1})
		}
		if h.Many() != 0 {
			t.Errorf("%d commits", h.Many())
		}
		for _, id := range append(noNumbers(0), 1, 2, 3) {
			isNoCommit(t, h, id)
		}
	}
}

func TestP8_1HistoriesAreIndependent(t *testing.T) {
	a, b := New(1), New(2)
	adds(t, a, api.Commit{Parents: []int{1}, Author: "ann"})
	adds(t, b, api.Commit{Parents: []int{1}, Author: "bob"})
	adds(t, a, api.Commit{Parents: []int{1, 2}})
	isCommit(t, a, 1, api.Commit{Tree: 1})
	isCommit(t, b, 1, api.Commit{Tree: 2})
	isCommit(t, a, 2, api.Commit{Parents: []int{1}, Author: "ann"})
	isCommit(t, b, 2, api.Commit{Parents: []int{1}, Author: "bob"})
	isNoCommit(t, b, 3)
}

func TestP8_2GetAndManyForOtherNumbers(t *testing.T) {
	h := New(5)
	for many := 1; many <= 20; many++ {
		if h.Many() != many {
			t.Fatalf("%d commits; want %d", h.Many(), many)
		}
		for _, id := range noNumbers(many) {
			isNoCommit(t, h, id)
		}
		isCommit(t, h, 1, api.Commit{Tree: 5})
		adds(t, h, api.Commit{Parents: []int{many}, Tree: 5})
	}
}

func TestP8_2ListsThatAreChangedAfterwards(t *testing.T) {
	h := example(t)
	list := []int{5, 4, 8, 9, 7}
	c := api.Commit{Parents: list[:2], Changes: list[2:4]}
	adds(t, h, c)
	if !slices.Equal(list, []int{5, 4, 8, 9, 7}) || !equal(c, api.Commit{Parents: []int{5, 4}, Changes: []int{8, 9}}) {
		t.Fatalf("Add changes its argument to %v, %+v", list, c)
	}
	want := api.Commit{Parents: []int{5, 4}, Changes: []int{8, 9}}
	overwrite(c)
	isCommit(t, h, 6, want)
	if log := h.Log(6); !slices.Equal(log, []int{6, 5, 4, 3, 2, 1}) {
		t.Errorf("the log has become %v", log)
	}
}

func TestP8_2ResultsThatAreChangedAfterwards(t *testing.T) {
	h := example(t)
	want := api.Commit{Parents: []int{5, 4}, Changes: []int{8, 9}}
	adds(t, h, want)
	first, _ := h.Get(6)
	second, _ := h.Get(6)
	overwrite(first)
	if !equal(second, want) {
		t.Errorf("results share memory: %+v", second)
	}
	isCommit(t, h, 6, want)
	third, _ := h.Get(6)
	third.Parents = append(third.Parents[:1], 99, 98, 97)
	if !slices.Equal(third.Changes, want.Changes) {
		t.Errorf("the lists of a result share memory: %+v", third)
	}
	third.Changes = append(third.Changes[:1], 99, 98, 97)
	if !slices.Equal(third.Parents, []int{5, 99, 98, 97}) {
		t.Errorf("the lists of a result share memory: %+v", third)
	}
	isCommit(t, h, 6, want)
}

// overwrite changes the lists of a commit, also behind their ends.
func overwrite(c api.Commit) {
	for _, list := range [][]int{c.Parents, c.Changes} {
		list = list[:cap(list)]
		for i := range list {
			list[i] = 0
		}
	}
}

func TestP8_3AncestorOfTheExample(t *testing.T) {
	h := example(t)
	for b, ancestors := range map[int][]int{1: {1}, 2: {1, 2}, 3: {1, 3}, 4: {1, 2, 3, 4}, 5: {1, 3, 5}} {
		for a := 1; a <= 5; a++ {
			if got := h.Ancestor(a, b); got != slices.Contains(ancestors, a) {
				t.Errorf("Ancestor(%d, %d): %t", a, b, got)
			}
		}
	}
	for _, id := range noNumbers(5) {
		isNoCommit(t, h, id)
	}
}

func TestP8_3AncestorFollowsTheWords(t *testing.T) {
	inManyHistories(t, func(h *History, w byWords, a, b int) {
		if got, want := h.Ancestor(a, b), w.ancestor(a, b); got != want {
			t.Fatalf("Ancestor(%d, %d) with the parents %v: %t", a, b, w.parents, got)
		}
	})
}

func TestP8_4BaseOfTheExample(t *testing.T) {
	h := example(t)
	for _, c := range [][3]int{{4, 5, 3}, {2, 3, 1}, {5, 3, 3}, {1, 1, 1}, {1, 5, 1}, {2, 2, 2}, {2, 4, 2}, {2, 5, 1}, {3, 4, 3}, {4, 4, 4}, {4, 1, 1}} {
		for _, pair := range [][2]int{{c[0], c[1]}, {c[1], c[0]}} {
			if base := h.Base(pair[0], pair[1]); base != c[2] {
				t.Errorf("Base%v: %d; want %d", pair, base, c[2])
			}
		}
	}
}

// TestP8_4BaseOfSeveral has two commits that are both ancestors of 4 and of 5, of which neither is one of the other.
func TestP8_4BaseOfSeveral(t *testing.T) {
	for _, parents := range [][][]int{{{2, 3}, {2, 3}}, {{2, 3}, {3, 2}}, {{3, 2}, {2, 3}}, {{3, 2}, {3, 2}}} {
		h := withParents(t, []int{1}, []int{1}, parents[0], parents[1])
		if base := h.Base(4, 5); base != 3 {
			t.Errorf("Base(4, 5) with the parents %v: %d", parents, base)
		}
	}
	// 6 and 7 are far from each other, but 3 is a parent of both.
	h := withParents(t, []int{1}, []int{2}, []int{1}, []int{4}, []int{5, 3}, []int{3, 1})
	if base := h.Base(6, 7); base != 3 {
		t.Errorf("Base(6, 7): %d", base)
	}
}

func TestP8_4BaseFollowsTheWords(t *testing.T) {
	inManyHistories(t, func(h *History, w byWords, a, b int) {
		if got, want := h.Base(a, b), w.base(a, b); got != want {
			t.Fatalf("Base(%d, %d) with the parents %v: %d; want %d", a, b, w.parents, got, want)
		}
	})
}

func TestP8_5LogOfTheExample(t *testing.T) {
	h := example(t)
	for head, want := range [][]int{{}, {1}, {2, 1}, {3, 1}, {4, 3, 2, 1}, {5, 3, 1}, {}} {
		if log := h.Log(head); !slices.Equal(log, want) {
			t.Errorf("Log(%d): %v; want %v", head, log, want)
		}
	}
}

func TestP8_5LogFollowsTheWords(t *testing.T) {
	inManyHistories(t, func(h *History, w byWords, head, _ int) {
		if got, want := h.Log(head), w.log(head); !slices.Equal(got, want) {
			t.Fatalf("Log(%d) with the parents %v: %v; want %v", head, w.parents, got, want)
		}
	})
}

func TestP8_6LineOfTheExample(t *testing.T) {
	h := example(t)
	first := [][]int{{}, {1}, {1, 2}, {1, 3}, {1, 2, 4}, {1, 3, 5}, {}}
	for to, line := range first {
		for from := range first {
			place := slices.Index(line, from)
			var want []int
			if place >= 0 {
				want = line[place+1:]
			}
			if got, ok := h.Line(from, to); !slices.Equal(got, want) || ok != (place >= 0) {
				t.Errorf("Line(%d, %d): %v, %t; want %v, %t", from, to, got, ok, want, place >= 0)
			}
		}
	}
}

// TestP8_6LineFollowsTheFirstParent has commits whose first parents are less than the second ones.
func TestP8_6LineFollowsTheFirstParent(t *testing.T) {
	h := withParents(t, []int{1}, []int{2}, []int{1, 3}, []int{3, 4}, []int{4, 5}, []int{6, 5}, []int{2, 7})
	for _, c := range []struct {
		from, to int
		want     []int
		ok       bool
	}{
		{1, 7, []int{4, 6, 7}, true}, {4, 7, []int{6, 7}, true}, {6, 7, []int{7}, true}, {7, 7, nil, true}, {1, 1, nil, true},
		{1, 8, []int{2, 8}, true}, {2, 8, []int{8}, true}, {1, 5, []int{2, 3, 5}, true}, {1, 4, []int{4}, true},
		{5, 7, nil, false}, {3, 7, nil, false}, {2, 7, nil, false}, {7, 8, nil, false}, {3, 4, nil, false}, {4, 5, nil, false}, {7, 1, nil, false}, {7, 4, nil, false},
	} {
		if got, ok := h.Line(c.from, c.to); !slices.Equal(got, c.want) || ok != c.ok {
			t.Errorf("Line(%d, %d): %v, %t; want %v, %t", c.from, c.to, got, ok, c.want, c.ok)
		}
	}
}

func TestP8_6LineFollowsTheWords(t *testing.T) {
	inManyHistories(t, func(h *History, w byWords, from, to int) {
		got, ok := h.Line(from, to)
		if want, wantOk := w.line(from, to); !slices.Equal(got, want) || ok != wantOk {
			t.Fatalf("Line(%d, %d) with the parents %v: %v, %t; want %v, %t", from, to, w.parents, got, ok, want, wantOk)
		}
	})
}

func TestP8_7Consequences(t *testing.T) {
	for seed := range uint32(30) {
		h := randomHistory(t, seed, 60)
		for a := 1; a <= h.Many(); a++ {
			if !h.Ancestor(1, a) || !h.Ancestor(a, a) {
				t.Fatalf("seed %d: 1 or %d is not an ancestor of %d, or itself", seed, a, a)
			}
			for b := 1; b <= h.Many(); b++ {
				base := h.Base(a, b)
				if base != h.Base(b, a) {
					t.Fatalf("seed %d: Base(%d, %d) is not symmetric", seed, a, b)
				}
				if (base == a) != h.Ancestor(a, b) {
					t.Fatalf("seed %d: Base(%d, %d) is %d, but Ancestor is %t", seed, a, b, base, h.Ancestor(a, b))
				}
			}
		}
	}
}

func TestP8_7AncestorsNeverChange(t *testing.T) {
	below := samples.Below(1)
	h := New(0)
	logs := [][]int{nil}
	for h.Many() < 150 {
		logs = append(logs, h.Log(h.Many()))
		adds(t, h, api.Commit{Parents: randomParents(below, h.Many(), 5)})
		refuses(t, h, api.Commit{Parents: []int{h.Many() + 1, 1}})
		for head := 1; head < h.Many(); head++ {
			if log := h.Log(head); !slices.Equal(log, logs[head]) {
				t.Fatalf("with %d commits Log(%d) is %v; it was %v", h.Many(), head, log, logs[head])
			}
			if a := 1 + below(h.Many()); h.Ancestor(a, head) != slices.Contains(logs[head], a) {
				t.Fatalf("with %d commits Ancestor(%d, %d) is not as it was", h.Many(), a, head)
			}
		}
	}
}

// TestP8_7QuestionsChangeNothing asks everything twice, and overwrites the answers.
func TestP8_7QuestionsChangeNothing(t *testing.T) {
	h := randomHistory(t, 3, 12)
	before := commitsOf(h)
	var first []any
	for again := range 2 {
		var answers []any
		forAllPairs(h, func(h *History, _ byWords, a, b int) {
			line, ok := h.Line(a, b)
			log := h.Log(a)
			answers = append(answers, h.Many(), h.Ancestor(a, b), h.Base(a, b), slices.Clone(log), slices.Clone(line), ok)
			overwrite(api.Commit{Parents: line, Changes: log})
		})
		if again == 0 {
			first = answers
		} else if !reflect.DeepEqual(answers, first) {
			t.Error("other answers to the same questions")
		}
	}
	if !slices.EqualFunc(commitsOf(h), before, equal) {
		t.Errorf("%v has become %v", before, commitsOf(h))
	}
}

func TestP1CallsEndForAllArguments(t *testing.T) {
	h := example(t)
	for _, of := range []*History{nil, {}, New(1), h} {
		for _, a := range append(noNumbers(of.Many()), noNumbers(5)...) {
			for _, b := range append(noNumbers(of.Many()), 1, 2, 3, 4, 5) {
				of.Add(api.Commit{Parents: []int{a, b}})
				of.Add(api.Commit{Parents: []int{b, a, b}})
				of.Ancestor(a, b)
				of.Ancestor(b, a)
				of.Base(a, b)
				of.Base(b, a)
				of.Line(a, b)
				of.Line(b, a)
			}
			of.Get(a)
			of.Log(a)
		}
	}
	adds(t, h, api.Commit{Parents: []int{1}, Changes: make([]int, 1000000)})
	refuses(t, h, api.Commit{Parents: make([]int, 1000000)})
}

// TestP1LongHistories has one commit after the other, and twice as many ways from one commit to the first one with each commit.
func TestP1LongHistories(t *testing.T) {
	const many = 100000
	straight, ladder, comb := New(0), New(0), New(0)
	for n := 1; n < many; n++ {
		straight.Add(api.Commit{Parents: []int{n}})
		ladder.Add(api.Commit{Parents: []int{n, n - 1}[:min(n, 2)]})
		comb.Add(api.Commit{Parents: []int{n, 1 + n/3}[:min(n, 2)]})
	}
	for name, h := range map[string]*History{"straight": straight, "ladder": ladder, "comb": comb} {
		if h.Many() != many {
			t.Fatalf("%s: %d commits", name, h.Many())
		}
		log := h.Log(many)
		if len(log) != many || log[0] != many || log[many-1] != 1 {
			t.Errorf("%s: a log of %d commits", name, len(log))
		}
		line, ok := h.Line(1, many)
		if !ok || len(line) != many-1 || line[0] != 2 || line[many-2] != many {
			t.Errorf("%s: a line of %d commits, %t", name, len(line), ok)
		}
		if !h.Ancestor(1, many) || h.Ancestor(many, 1) || h.Base(many, 1) != 1 || h.Base(many, many/2) != many/2 {
			t.Errorf("%s: not all ancestors are found", name)
		}
	}
}

// TestP1WideHistories has two sides that are merged one after the other and have only commit 1 in common.
func TestP1WideHistories(t *testing.T) {
	const many = 20000
	h := New(0)
	var sides [2][]int
	for n := 2; n <= many; n++ {
		h.Add(api.Commit{Parents: []int{1}})
		sides[n%2] = append(sides[n%2], n)
	}
	var heads []int
	for _, side := range sides {
		head := side[0]
		for _, id := range side[1:] {
			head, _ = h.Add(api.Commit{Parents: []int{head, id}})
		}
		heads = append(heads, head)
	}
	if base := h.Base(heads[0], heads[1]); base != 1 {
		t.Errorf("Base: %d", base)
	}
	if log := h.Log(heads[1]); len(log) != 2*len(sides[1]) {
		t.Errorf("a log of %d commits for %d", len(log), len(sides[1]))
	}
	if h.Ancestor(sides[0][5], heads[1]) || !h.Ancestor(sides[1][5], heads[1]) {
		t.Error("an ancestor of the other side")
	}
}
