package affected

import (
	"cmp"
	"slices"

	"mainline/api"
)

const (
	noKey = 0  // of a node whose key is not known
	none  = -1 // in the place of a node that does not exist
)

// target is what nodes of two graphs have in common: all with this label and platform stand for the same thing.
type target struct {
	label, platform string
}

func (t target) compare(other target) int {
	return cmp.Or(cmp.Compare(t.label, other.label), cmp.Compare(t.platform, other.platform))
}

func targetOf(node *api.Node) target {
	return target{node.Variant.Label, node.Variant.Platform}
}

// targetsOf returns the targets of all nodes of graphs, in order, each once.
func targetsOf(graphs ...[]api.Node) []target {
	var targets []target
	for _, nodes := range graphs {
		for n := range nodes {
			targets = append(targets, targetOf(&nodes[n]))
		}
	}
	slices.SortFunc(targets, target.compare)
	return slices.Compact(targets)
}

// side is one of two graphs that are compared: nodes with their keys, where targets have numbers.
type side struct {
	nodes   []api.Node
	keys    []int
	targets []int // of the nodes
	first   []int // for each target, its first node, or none
}

func sideOf(nodes []api.Node, keys []int, numbers map[target]int) side {
	s := side{nodes, keys, make([]int, len(nodes)), make([]int, len(numbers))}
	for t := range s.first {
		s.first[t] = none
	}
	for n := range nodes {
		t := numbers[targetOf(&nodes[n])]
		s.targets[n] = t
		if s.first[t] == none {
			s.first[t] = n
		}
	}
	return s
}

// variant, key and uses are those of the node of a target that has one.
func (s *side) variant(t int) *api.Variant {
	return &s.nodes[s.first[t]].Variant
}

func (s *side) key(t int) int {
	return keyOf(s.keys, s.first[t])
}

// uses returns the targets of the dependencies that exist, in order, each once.
func (s *side) uses(t int) []int {
	var used []int
	for _, dep := range s.nodes[s.first[t]].Deps {
		if dep >= 0 && dep < len(s.nodes) {
			used = append(used, s.targets[dep])
		}
	}
	slices.Sort(used)
	return slices.Compact(used)
}

// keyOf returns the key of a node by a list that may be too short.
func keyOf(keys []int, n int) int {
	if n < len(keys) {
		return keys[n]
	}
	return noKey
}
