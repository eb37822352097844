package history

import (
	"container/heap"
)

// walk visits a commit, and those to which it leads, each once, in decreasing order.
type walk struct {
	leadsTo func(id int) []int // commits with smaller numbers
	waiting heap.Interface     // commits that have to be visited, one of them perhaps several times
	latest  int                // the commit that was visited last
}

// walkFrom returns the walk that begins at head.
func walkFrom(head int, leadsTo func(id int) []int) *walk {
	return &walk{leadsTo: leadsTo, waiting: &greatestFirst{numbers{head}}}
}

// next visits the next commit, and returns it; none if all have been visited. As the greatest one is next, and leads only to smaller ones, one that waits several times comes so often in succession.
func (w *walk) next() int {
	for w.waiting.Len() > 0 {
		id := heap.Pop(w.waiting).(int)
		if id == w.latest {
			continue
		}
		w.latest = id
		for _, behind := range w.leadsTo(id) {
			heap.Push(w.waiting, behind)
		}
		return id
	}
	return none
}

// downTo visits the next commits as far as one that is not greater than bound, and returns it; none if there is none.
func (w *walk) downTo(bound int) int {
	id := w.next()
	for id > bound {
		id = w.next()
	}
	return id
}

// numbers is a list of numbers that can be put into another order.
type numbers []int

func (n numbers) Len() int {
	return len(n)
}

func (n numbers) Swap(i, j int) {
	n[i], n[j] = n[j], n[i]
}

// greatestFirst is a heap whose first number is the greatest.
type greatestFirst struct {
	numbers
}

func (g *greatestFirst) Less(i, j int) bool {
	return g.numbers[i] > g.numbers[j]
}

// Push and Pop are those of package heap: they add and take the last element of the list.
func (g *greatestFirst) Push(number any) {
	g.numbers = append(g.numbers, number.(int))
}

func (g *greatestFirst) Pop() any {
	last := len(g.numbers) - 1
	number := g.numbers[last]
	g.numbers = g.numbers[:last]
	return number
}
