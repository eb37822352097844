package keys

import (
	"slices"
	"testing"

	"mainline/api"
	"mainline/samples"
)

// randomVariant returns one of few variants, so that equal ones and ones that nearly are occur often.
func randomVariant(below func(int) int, word func(int) string) api.Variant {
	v := api.Variant{Label: word(1), Line: below(3)}
	if below(3) > 0 {
		return v
	}
	v.Platform, v.Kind, v.Cost, v.Retry = word(1), below(2), below(3)-1, below(2)
	for range below(3) {
		v.Files = append(v.Files, api.File{Path: word(1), Id: below(2)})
	}
	for range below(3) {
		v.Outs = append(v.Outs, word(1))
	}
	for range below(2) {
		v.Visible, v.Deps = append(v.Visible, word(1)), append(v.Deps, api.Item{Text: word(1)})
	}
	return v
}

// randomNodes returns nodes, most of which are not behind cycles.
func randomNodes(below func(int) int, word func(int) string) []api.Node {
	nodes := make([]api.Node, below(12))
	names := make([]int, len(nodes)) // so that dependencies are not always greater
	for n := range names {
		other := below(n + 1)
		names[n], names[other] = names[other], n
	}
	for n := range nodes {
		node := &nodes[names[n]]
		node.Path, node.Variant = word(1), randomVariant(below, word)
		for range below(4) {
			dep := n + 1 + below(4)
			if dep < len(nodes) {
				node.Deps = append(node.Deps, names[dep])
			}
		}
		if below(20) == 0 {
			node.Deps = append(node.Deps, below(len(nodes)+2)-1)
		}
	}
	return nodes
}

func TestP14_1RandomCallsFollowTheWords(t *testing.T) {
	known := 0
	for seed := range uint32(300) {
		below, word, b := samples.Below(seed), samples.Words(seed+1, "\x00\x01a"), newBoth(t)
		for range 60 {
			var deps []int
			for range below(4) {
				deps = append(deps, below(5)-1)
			}
			before := b.table.Many()
			if b.key(randomVariant(below, word), deps); b.table.Many() == before {
				known++
			}
		}
		b.areSame()
	}
	if known < 3000 || known > 15000 {
		t.Errorf("%d of 18000 inputs were in the table", known)
	}
}

func TestP14_3RandomNodesFollowTheWords(t *testing.T) {
	without, equal, all := 0, 0, 0
	for seed := range uint32(2000) {
		below, word, b := samples.Below(seed), samples.Words(seed+1, "ab"), newBoth(t)
		for range 3 {
			numbers := b.all(randomNodes(below, word))
			all += len(numbers)
			slices.Sort(numbers)
			for i, number := range numbers {
				if number == 0 {
					without++
				} else if i > 0 && number == numbers[i-1] {
					equal++
				}
			}
		}
		b.areSame()
	}
	if without < all/20 || equal < all/20 || without+equal > all/2 {
		t.Errorf("of %d nodes, %d have no number, and %d one that another one has", all, without, equal)
	}
}

func TestP14_5NumbersOfNodesAreGreaterThanThoseOfTheirDeps(t *testing.T) {
	for seed := range uint32(1000) {
		nodes := randomNodes(samples.Below(seed), samples.Words(seed+1, "ab"))
		numbers := New().All(nodes)
		for n, number := range numbers {
			for _, dep := range nodes[n].Deps {
				if number != 0 && number <= numbers[dep] {
					t.Fatalf("seed %d: node %d has the number %d, and its Dep %d the number %d", seed, n, number, dep, numbers[dep])
				}
			}
		}
	}
}

// TestP14_5OtherOrdersOfNodes puts the nodes of a graph into the reverse order, among others.
func TestP14_5OtherOrdersOfNodes(t *testing.T) {
	for seed := range uint32(1000) {
		below, word := samples.Below(seed), samples.Words(seed+1, "ab")
		nodes, others := randomNodes(below, word), randomNodes(below, word)
		table := New()
		numbers := table.All(nodes)
		last := len(nodes) - 1
		var mixed []api.Node
		for n := range nodes {
			node := nodes[last-n]
			var deps []int
			for _, dep := range node.Deps {
				if dep >= 0 && dep <= last {
					dep = last - dep
				} else {
					dep = -1
				}
				deps = append(deps, dep)
			}
			mixed = append(mixed, api.Node{Variant: node.Variant, Deps: deps})
		}
		for _, node := range others {
			node.Deps = nil
			mixed = append(mixed, node)
		}
		again := table.All(mixed)[:len(nodes)]
		slices.Reverse(again)
		if !slices.Equal(again, numbers) {
			t.Fatalf("seed %d: %v; want %v", seed, again, numbers)
		}
	}
}

// TestP1AnyArguments calls everything with arguments that make no sense.
func TestP1AnyArguments(t *testing.T) {
	for _, table := range []*Table{nil, new(Table), New()} {
		for _, key := range append(noKeys(0), noKeys(2)...) {
			table.Parts(key)
			table.Key(api.Variant{Kind: key, Line: key, Cost: key, Retry: key, Files: make([]api.File, 2), Outs: make([]string, 2)}, []int{key, -key, key - 1})
			table.All([]api.Node{{Deps: []int{key, -key}}, {}, {Deps: []int{key}}})
		}
		table.All(make([]api.Node, 3))
	}
}
