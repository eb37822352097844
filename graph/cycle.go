package graph

import (
	"math"
	"slices"

	"mainline/api"
)

// closed stands for a time that is later than all others.
const closed = math.MaxInt

// search comes to all nodes along their dependencies, and finds the sets of those that all depend on each other: of each set it comes to one node first, from which it comes to all others before it leaves it.
type search struct {
	nodes    []api.Node
	entered  []int // when the search came to each node: 1, 2, and so on; 0 if it has not
	earliest []int // for each node, when the search came to the first one that it is known to lead to; closed if its set is complete
	many     int   // how many nodes the search has come to
	open     []int // those of them whose sets are not complete, in order
}

// visit is a node on the way of the search.
type visit struct {
	node int
	left []int // those of its dependencies that have not been followed to their end
	from int   // the place of the node among the open ones
}

// leastInCycles returns the least node of each greatest set of nodes that all depend on each other, also of a single node that depends on itself, in increasing order, where all Deps are numbers of nodes. The way is kept in a list, as it can be longer than calls may be nested.
func leastInCycles(nodes []api.Node) []int {
	s := &search{nodes: nodes, entered: make([]int, len(nodes)), earliest: make([]int, len(nodes))}
	var least []int
	visitFrom := func(start int) {
		way := []visit{s.enter(start)}
	following:
		for len(way) > 0 {
			here := &way[len(way)-1]
			for ; len(here.left) > 0; here.left = here.left[1:] {
				next := here.left[0]
				if s.entered[next] == 0 {
					way = append(way, s.enter(next)) // next is still left: when it is done, the same step takes what is known of it
					continue following
				}
				s.earliest[here.node] = min(s.earliest[here.node], s.earliest[next])
			}
			if set := s.complete(here); s.isCycle(set) {
				least = append(least, slices.Min(set))
			}
			way = way[:len(way)-1]
		}
	}
	for n := range nodes {
		if s.entered[n] == 0 {
			visitFrom(n)
		}
	}
	slices.Sort(least)
	return least
}

// enter comes to a node for the first time.
func (s *search) enter(n int) visit {
	s.many++
	s.entered[n], s.earliest[n] = s.many, s.many
	s.open = append(s.open, n)
	return visit{node: n, left: s.nodes[n].Deps, from: len(s.open) - 1}
}

// complete returns the set of a node whose dependencies have all been followed, if the search came to no other node of the set before; otherwise none.
func (s *search) complete(v *visit) []int {
	if s.earliest[v.node] < s.entered[v.node] {
		return nil
	}
	set := s.open[v.from:]
	s.open = s.open[:v.from]
	for _, n := range set {
		s.earliest[n] = closed
	}
	return set
}

// isCycle tells whether the nodes of a set depend on themselves.
func (s *search) isCycle(set []int) bool {
	return len(set) > 1 || len(set) == 1 && slices.Contains(s.nodes[set[0]].Deps, set[0])
}
