package history

import (
	"math"
	"slices"
	"testing"

	"mainline/api"
	"mainline/samples"
)

// byWords follows the chapter's words as literally as possible.
type byWords struct {
	parents   map[int][]int
	ancestors map[int]map[int]bool
}

// of returns what the words say of the commits of a history, which Get tells.
func of(h *History) byWords {
	w := byWords{parents: map[int][]int{}, ancestors: map[int]map[int]bool{}}
	for id := 1; id <= h.Many(); id++ {
		commit, _ := h.Get(id)
		w.parents[id] = commit.Parents
		w.ancestors[id] = map[int]bool{}
		for _, parent := range commit.Parents {
			w.ancestors[id][parent] = true
			for ancestor := range w.ancestors[parent] {
				w.ancestors[id][ancestor] = true
			}
		}
	}
	return w
}

// has tells whether all these are numbers of commits.
func (w byWords) has(ids ...int) bool {
	for _, id := range ids {
		if _, ok := w.parents[id]; !ok {
			return false
		}
	}
	return true
}

func (w byWords) ancestor(a, b int) bool {
	return w.has(a, b) && (a == b || w.ancestors[b][a])
}

func (w byWords) base(a, b int) int {
	greatest := 0
	for id := range w.parents {
		if w.has(a, b) && (id == a || w.ancestors[a][id]) && (id == b || w.ancestors[b][id]) {
			greatest = max(greatest, id)
		}
	}
	return greatest
}

func (w byWords) log(head int) []int {
	if !w.has(head) {
		return nil
	}
	ids := []int{head}
	for id := range w.ancestors[head] {
		ids = append(ids, id)
	}
	slices.Sort(ids)
	slices.Reverse(ids)
	return ids
}

func (w byWords) line(from, to int) ([]int, bool) {
	if !w.has(from, to) {
		return nil, false
	}
	first := []int{to}
	for last := to; last != 1; last = first[len(first)-1] {
		first = append(first, w.parents[last][0])
	}
	place := slices.Index(first, from)
	if place < 0 {
		return nil, false
	}
	line := first[:place]
	slices.Reverse(line)
	return line, true
}

// withParents returns a history with commits 2, 3, and so on that have these parents.
func withParents(t *testing.T, parents ...[]int) *History {
	t.Helper()
	h := New(0)
	for _, ids := range parents {
		adds(t, h, api.Commit{Parents: ids})
	}
	return h
}

// adds adds a commit with the next number.
func adds(t *testing.T, h *History, c api.Commit) {
	t.Helper()
	want := h.Many() + 1
	if id, e := h.Add(c); id != want || e != api.OK || h.Many() != want {
		t.Fatalf("Add(%v): %d, error %d, then %d commits; want %d", c, id, e, h.Many(), want)
	}
}

// refuses checks that a commit cannot be added, and that nothing changes.
func refuses(t *testing.T, h *History, c api.Commit) {
	t.Helper()
	before := commitsOf(h)
	id, e := h.Add(c)
	if id != 0 || e != api.ErrArg {
		t.Fatalf("Add(%v) to %d commits: %d, error %d; want 0, ErrArg", c, len(before), id, e)
	}
	if !slices.EqualFunc(commitsOf(h), before, equal) {
		t.Fatalf("Add(%v) returns an error, but changes %v to %v", c, before, commitsOf(h))
	}
}

func equal(a, b api.Commit) bool {
	return slices.Equal(a.Parents, b.Parents) && a.Tree == b.Tree && a.Author == b.Author && slices.Equal(a.Changes, b.Changes) && a.Emergency == b.Emergency
}

// commitsOf returns all commits of a history.
func commitsOf(h *History) []api.Commit {
	var commits []api.Commit
	for id := 1; id <= h.Many(); id++ {
		commit, _ := h.Get(id)
		commits = append(commits, commit)
	}
	return commits
}

// isCommit checks what Get returns for the number of a commit.
func isCommit(t *testing.T, h *History, id int, want api.Commit) {
	t.Helper()
	if commit, ok := h.Get(id); !ok || !equal(commit, want) {
		t.Fatalf("Get(%d): %+v, %t; want %+v", id, commit, ok, want)
	}
}

// isNoCommit checks all calls for a number that is not that of a commit.
func isNoCommit(t *testing.T, h *History, id int) {
	t.Helper()
	if commit, ok := h.Get(id); ok || !equal(commit, api.Commit{}) {
		t.Errorf("Get(%d) of %d commits: %+v, %t", id, h.Many(), commit, ok)
	}
	if log := h.Log(id); len(log) != 0 {
		t.Errorf("Log(%d) of %d commits: %v", id, h.Many(), log)
	}
	for _, other := range []int{id, 0, 1, 2, h.Many(), h.Many() + 1} {
		for _, pair := range [][2]int{{id, other}, {other, id}} {
			if h.Ancestor(pair[0], pair[1]) {
				t.Errorf("Ancestor%v of %d commits", pair, h.Many())
			}
			if base := h.Base(pair[0], pair[1]); base != 0 {
				t.Errorf("Base%v of %d commits: %d", pair, h.Many(), base)
			}
			if line, ok := h.Line(pair[0], pair[1]); ok || len(line) != 0 {
				t.Errorf("Line%v of %d commits: %v, %t", pair, h.Many(), line, ok)
			}
		}
	}
}

// noNumbers returns numbers that are not those of commits, if there are so many of them.
func noNumbers(many int) []int {
	return []int{0, -1, -2, -many, many + 1, many + 2, 2*many + 1, math.MaxInt, math.MinInt, math.MinInt + 1, 1 << 32, 1<<32 + 1, -1 << 31, -1<<32 + 1}
}

// inManyHistories calls check for all pairs of numbers, also of those that are not commits, of all small histories, and of some larger ones.
func inManyHistories(t *testing.T, check func(h *History, w byWords, a, b int)) {
	t.Helper()
	for many := 1; many <= 5; many++ {
		smallHistories(t, many, func(h *History) { forAllPairs(h, check) })
	}
	for seed := range uint32(300) {
		forAllPairs(randomHistory(t, seed, 6+int(seed%12)), check)
	}
	for seed := range uint32(3) {
		forAllPairs(randomHistory(t, seed, 50), check)
	}
}

func forAllPairs(h *History, check func(h *History, w byWords, a, b int)) {
	w := of(h)
	for a := -1; a <= h.Many()+2; a++ {
		for b := -1; b <= h.Many()+2; b++ {
			check(h, w, a, b)
		}
	}
}

// smallHistories calls do for every history with so many commits.
func smallHistories(t *testing.T, many int, do func(h *History)) {
	if many == 1 {
		do(New(0))
		return
	}
	smallHistories(t, many-1, func(h *History) {
		var parents [][]int
		for _, commit := range commitsOf(h)[1:] {
			parents = append(parents, commit.Parents)
		}
		for a := range h.Many() {
			for b := range h.Many() {
				last := []int{a + 1, b + 1}
				if a == b {
					last = last[1:]
				}
				do(withParents(t, slices.Concat(parents, [][]int{last})...))
			}
		}
	})
}

// randomHistory returns a history with so many commits; most parents are among the last few commits.
func randomHistory(t *testing.T, seed uint32, many int) *History {
	t.Helper()
	below := samples.Below(seed)
	few := 1 + below(8)
	h := New(0)
	for h.Many() < many {
		adds(t, h, api.Commit{Parents: randomParents(below, h.Many(), few)})
	}
	return h
}

// randomParents returns parents for the next commit of so many.
func randomParents(below func(int) int, many, few int) []int {
	pick := func() int {
		if below(6) == 0 {
			return 1 + below(many)
		}
		return many - below(min(few, many))
	}
	a, b := pick(), pick()
	if a == b || below(2) == 0 {
		return []int{a}
	}
	return []int{a, b}
}
