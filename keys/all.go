package keys

import (
	"container/heap"
	"sort"

	"mainline/api"
)

// All returns a number for each node, which says what it is and what everything on which it depends is; 0 for a node for which that has no end, or is unknown.
func (t *Table) All(nodes []api.Node) []int {
	numbers := make([]int, len(nodes))
	if t == nil {
		return numbers
	}
	w := waitingFor(nodes)
	for w.possible.Len() > 0 {
		n := heap.Pop(&w.possible).(int)
		numbers[n] = t.Key(nodes[n].Variant, numbersOf(nodes[n].Deps, numbers))
		w.release(n)
	}
	return numbers
}

// numbersOf returns the numbers of nodes.
func numbersOf(nodes, numbers []int) []int {
	var of []int
	for _, n := range nodes {
		of = append(of, numbers[n])
	}
	return of
}

// waiting are the nodes that have no number yet.
type waiting struct {
	users    [][]int // of each node, as often as it stands in their Deps
	missing  []int   // how many Deps of each node have no number
	possible leastFirst
}

// waitingFor returns all nodes, of which those without Deps are possible.
func waitingFor(nodes []api.Node) *waiting {
	w := &waiting{users: make([][]int, len(nodes)), missing: make([]int, len(nodes))}
	for n := range nodes {
		w.missing[n] = len(nodes[n].Deps)
		if w.missing[n] == 0 {
			heap.Push(&w.possible, n)
		}
		for _, dep := range nodes[n].Deps {
			if dep >= 0 && dep < len(nodes) { // any other one will always be missing
				w.users[dep] = append(w.users[dep], n)
			}
		}
	}
	return w
}

// release makes those nodes possible that waited for the number of n alone.
func (w *waiting) release(n int) {
	for _, user := range w.users[n] {
		w.missing[user]--
		if w.missing[user] == 0 {
			heap.Push(&w.possible, user)
		}
	}
}

// leastFirst is a heap whose first number is the least.
type leastFirst struct {
	sort.IntSlice
}

// Push and Pop are those of package heap: they add and take the last element of the list.
func (l *leastFirst) Push(number any) {
	l.IntSlice = append(l.IntSlice, number.(int))
}

func (l *leastFirst) Pop() any {
	last := l.Len() - 1
	number := l.IntSlice[last]
	l.IntSlice = l.IntSlice[:last]
	return number
}
