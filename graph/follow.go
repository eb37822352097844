package graph

import (
	"sort"

	"mainline/api"
)

// usersOf returns, for each node, those that depend directly on it, as often as it stands in their Deps.
func usersOf(nodes []api.Node) [][]int {
	users := make([][]int, len(nodes))
	for n := range nodes {
		for _, dep := range nodes[n].Deps {
			if isNode(dep, len(nodes)) {
				users[dep] = append(users[dep], n)
			}
		}
	}
	return users
}

// isNode tells whether n is the number of one of so many nodes.
func isNode(n, many int) bool {
	return n >= 0 && n < many
}

// reached returns the nodes in from, of so many, and all to which next leads from them, in increasing order. Numbers that are not those of nodes are passed over.
func reached(many int, from []int, next func(n int) []int) []int {
	marked := make([]bool, many)
	var waiting []int // marked nodes that have not been followed
	mark := func(list []int) {
		for _, n := range list {
			if isNode(n, many) && !marked[n] {
				marked[n] = true
				waiting = append(waiting, n)
			}
		}
	}
	mark(from)
	for len(waiting) > 0 {
		last := len(waiting) - 1
		n := waiting[last]
		waiting = waiting[:last]
		mark(next(n))
	}
	var all []int
	for n, isReached := range marked {
		if isReached {
			all = append(all, n)
		}
	}
	return all
}

// leastFirst is a heap whose first number is the least.
type leastFirst struct {
	sort.IntSlice
}

// Push and Pop are those of package heap: they add and take the last element of the list.
func (l *leastFirst) Push(number any) {
	l.IntSlice = append(l.IntSlice, number.(int))
}

func (l *leastFirst) Pop() any {
	last := l.Len() - 1
	number := l.IntSlice[last]
	l.IntSlice = l.IntSlice[:last]
	return number
}
