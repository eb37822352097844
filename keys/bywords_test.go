package keys

import (
	"math"
	"reflect"
	"slices"
	"testing"

	"mainline/api"
)

// byWords is a table that follows the chapter's words: it looks for equal inputs one by one.
type byWords struct {
	cores []api.Variant
	lists [][]int
}

// coreByWords returns v with Line 0, and without Visible and Deps; lists are empty ones rather than nil, since they do not differ.
func coreByWords(v api.Variant) api.Variant {
	return api.Variant{
		Label:    v.Label,
		Platform: v.Platform,
		Kind:     v.Kind,
		Files:    append([]api.File{}, v.Files...),
		Outs:     append([]string{}, v.Outs...),
		Cost:     v.Cost,
		Retry:    v.Retry,
	}
}

func onceByWords(deps []int) []int {
	once := []int{}
	for _, n := range deps {
		if !slices.Contains(once, n) {
			once = append(once, n)
		}
	}
	slices.Sort(once)
	return once
}

func (w *byWords) key(v api.Variant, deps []int) int {
	core, list := coreByWords(v), onceByWords(deps)
	for i := range w.cores {
		if reflect.DeepEqual(w.cores[i], core) && slices.Equal(w.lists[i], list) {
			return i + 1
		}
	}
	w.cores, w.lists = append(w.cores, core), append(w.lists, list)
	return len(w.cores)
}

// firstReady returns the first node whose number is 0, and whose Deps have numbers that are not; -1 if there is none.
func firstReady(nodes []api.Node, numbers []int) int {
	for n := range nodes {
		if numbers[n] != 0 {
			continue
		}
		isMissing := func(dep int) bool { return dep < 0 || dep >= len(nodes) || numbers[dep] == 0 }
		if !slices.ContainsFunc(nodes[n].Deps, isMissing) {
			return n
		}
	}
	return -1
}

func (w *byWords) all(nodes []api.Node) []int {
	numbers := make([]int, len(nodes))
	for n := firstReady(nodes, numbers); n >= 0; n = firstReady(nodes, numbers) {
		var deps []int
		for _, dep := range nodes[n].Deps {
			deps = append(deps, numbers[dep])
		}
		numbers[n] = w.key(nodes[n].Variant, deps)
	}
	return numbers
}

// both is a table, and one that follows the words, with which all of its results are compared.
type both struct {
	t     *testing.T
	table *Table
	words *byWords
}

func newBoth(t *testing.T) *both {
	return &both{t: t, table: New(), words: new(byWords)}
}

func (b *both) key(v api.Variant, deps []int) int {
	b.t.Helper()
	number, want := b.table.Key(v, deps), b.words.key(v, deps)
	if number != want {
		b.t.Fatalf("Key(%.300v, %.100v): %d; want %d", v, deps, number, want)
	}
	return number
}

func (b *both) all(nodes []api.Node) []int {
	b.t.Helper()
	numbers, want := b.table.All(nodes), b.words.all(nodes)
	if !slices.Equal(numbers, want) {
		b.t.Fatalf("All(%.300v): %v; want %v", nodes, numbers, want)
	}
	return numbers
}

// areSame compares all that the tables contain.
func (b *both) areSame() {
	b.t.Helper()
	many := len(b.words.cores)
	if b.table.Many() != many {
		b.t.Fatalf("Many: %d; want %d", b.table.Many(), many)
	}
	for i := range many {
		isInput(b.t, b.table, i+1, b.words.cores[i], b.words.lists[i]...)
	}
	for _, key := range noKeys(many) {
		isNone(b.t, b.table, key)
	}
}

// isInput checks that the input with the number key has this core and this list.
func isInput(t *testing.T, table *Table, key int, core api.Variant, deps ...int) {
	t.Helper()
	v, list, ok := table.Parts(key)
	if v.Line != 0 || len(v.Visible) != 0 || len(v.Deps) != 0 {
		t.Fatalf("Parts(%d): %.300v is not a core", key, v)
	}
	if !reflect.DeepEqual(coreByWords(v), coreByWords(core)) || !slices.Equal(list, deps) || !ok {
		t.Fatalf("Parts(%d): %.300v, %.100v, %t; want %.300v, %.100v", key, v, list, ok, core, deps)
	}
}

// isNone checks that there is no input with the number key.
func isNone(t *testing.T, table *Table, key int) {
	t.Helper()
	v, list, ok := table.Parts(key)
	if !reflect.DeepEqual(v, api.Variant{}) || len(list) != 0 || ok {
		t.Fatalf("Parts(%d): %.300v, %.100v, %t", key, v, list, ok)
	}
}

// noKeys returns numbers that no input of a table with many inputs has.
func noKeys(many int) []int {
	return []int{0, -1, -many, many + 1, many + 2, math.MaxInt, math.MinInt, 1 << 32, 1<<32 + 1, math.MinInt32}
}
