package keys

import (
	"math"
	"reflect"
	"slices"
	"strconv"
	"testing"

	"mainline/api"
)

func isSameVariant(t *testing.T, v, want api.Variant) {
	t.Helper()
	if !reflect.DeepEqual(v, want) {
		t.Errorf("the variant is %v; want %v", v, want)
	}
}

// named returns nodes with these Deps; the label of each one is the letter of labels at its number.
func named(labels string, deps ...[]int) []api.Node {
	var nodes []api.Node
	for n, list := range deps {
		nodes = append(nodes, api.Node{Variant: labelled(labels[n : n+1]), Deps: list})
	}
	return nodes
}

func TestP14_3All(t *testing.T) {
	for _, c := range []struct {
		nodes []api.Node
		want  []int
	}{
		{named("ABA", []int{2}, []int{1}, nil), []int{2, 0, 1}}, // the chapter's example
		{nil, nil},
		{named("A", nil), []int{1}},
		{named("A", []int{}), []int{1}},
		{named("A", []int{0}), []int{0}},
		{named("A", []int{1}), []int{0}},
		{named("A", []int{-1}), []int{0}},
		{named("AB", nil, []int{0, 2}), []int{1, 0}},
		{named("AB", []int{1}, []int{0}), []int{0, 0}},
		{named("AAA", nil, nil, nil), []int{1, 1, 1}},
		{named("AAB", nil, []int{0}, []int{1}), []int{1, 2, 3}},
		{named("ABC", []int{1}, []int{2}, nil), []int{3, 2, 1}},
		{named("ABC", nil, nil, nil), []int{1, 2, 3}},
		{named("ABC", []int{2}, nil, nil), []int{3, 1, 2}},
		{named("ABCD", []int{1}, nil, nil, nil), []int{2, 1, 3, 4}}, // 0 comes as soon as it can, before 2
		{named("ABCD", []int{3}, []int{3}, nil, nil), []int{3, 4, 1, 2}},
		{named("ABAB", nil, []int{0, 0}, nil, []int{2, 0, 2}), []int{1, 2, 1, 2}}, // equal inputs of different nodes
		{named("ABCC", nil, nil, []int{1, 0}, []int{0, 1, 0}), []int{1, 2, 3, 3}},
		{named("ABCDE", []int{1}, []int{0}, []int{1, 3}, nil, []int{3}), []int{0, 0, 0, 1, 2}}, // 2 is behind a cycle
		{named("ABCD", nil, []int{5}, []int{1}, []int{0}), []int{1, 0, 0, 2}},                  // 2 is behind one with a Dep that is no node
	} {
		if numbers := New().All(c.nodes); !slices.Equal(numbers, c.want) {
			t.Errorf("%v: %v; want %v", c.nodes, numbers, c.want)
		}
	}
}

func TestP14_3NumbersThatAreNotThoseOfNodes(t *testing.T) {
	for many := 1; many < 4; many++ {
		for _, none := range []int{-1, many, many + 1, math.MaxInt, math.MinInt, 1 << 32, -1 << 32} {
			for at := range many {
				nodes := named("ABCD", make([][]int, many)...)
				nodes[at].Deps = []int{none}
				nodes[many-1].Deps = append(nodes[many-1].Deps, (many-1+at)%many)
				newBoth(t).all(nodes)
			}
		}
	}
}

// TestP14_3AllSmallGraphs tries all graphs of up to three nodes, whose Deps may also be greater than all nodes, with different labels and with equal ones.
func TestP14_3AllSmallGraphs(t *testing.T) {
	for many := range 4 {
		sets := 1 << (many + 1) // of Deps of one node
		graphs := 1
		for range many {
			graphs *= sets
		}
		for graph := range graphs {
			deps := make([][]int, many)
			for n := range deps {
				deps[n] = members(graph % sets)
				graph /= sets
			}
			for _, labels := range []string{"ABC", "AAA", "ABA", "BAA"} {
				b := newBoth(t)
				b.all(named(labels, deps...))
				b.areSame()
			}
		}
	}
}

// members returns the numbers of the bits of set, in decreasing order, and the first of them twice.
func members(set int) []int {
	var l []int
	for n := range 8 {
		if set>>n&1 == 1 {
			l = append([]int{n}, l...)
		}
	}
	if len(l) > 0 {
		l = append(l, l[0])
	}
	return l
}

func TestP14_3PathsAndAttributesOfNodes(t *testing.T) {
	nodes := named("AAA", nil, nil, []int{0, 1})
	nodes[0].Path, nodes[1].Path = "a/BUILD", "b/BUILD"
	nodes[0].Variant.Line, nodes[1].Variant.Visible = 5, []string{"public"}
	if numbers := New().All(nodes); !slices.Equal(numbers, []int{1, 1, 2}) {
		t.Errorf("%v", numbers)
	}
	nodes[1].Variant.Files = []api.File{{Path: "x", Id: 1}}
	if numbers := New().All(nodes); !slices.Equal(numbers, []int{1, 2, 3}) {
		t.Errorf("with a file: %v", numbers)
	}
}

// TestP14_3TableWithOtherInputs shows that numbers of Key can be those of All, and the reverse.
func TestP14_3TableWithOtherInputs(t *testing.T) {
	b := newBoth(t)
	b.key(labelled("C"), []int{2})
	b.key(labelled("A"), []int{9})
	if number := b.key(labelled("A"), nil); number != 3 {
		t.Errorf("A: %d", number)
	}
	nodes := named("CBA", []int{1}, []int{2}, nil)
	for range 2 {
		if numbers := b.all(nodes); !slices.Equal(numbers, []int{5, 4, 3}) {
			t.Errorf("%v", numbers)
		}
	}
	if number := b.key(labelled("C"), []int{4}); number != 5 {
		t.Errorf("C: %d", number)
	}
	nodes[2].Variant.Retry = 1
	if numbers := b.all(nodes); !slices.Equal(numbers, []int{8, 7, 6}) {
		t.Errorf("after a change: %v", numbers)
	}
	b.areSame()
}

func TestP14_3NothingIsAddedForNodesWithoutNumber(t *testing.T) {
	table := New()
	table.All(named("ABC", []int{1}, []int{0}, []int{7}))
	if table.Many() != 0 {
		t.Errorf("%d inputs", table.Many())
	}
}

// longChain returns nodes of which each depends on the next one.
func longChain(many int) []api.Node {
	nodes := make([]api.Node, many)
	for n := range many - 1 {
		nodes[n].Deps = []int{n + 1}
	}
	return nodes
}

func TestP14_3LongChain(t *testing.T) {
	const many = 100000
	table, nodes := New(), longChain(many)
	numbers := table.All(nodes)
	for n, number := range numbers {
		if number != many-n {
			t.Fatalf("node %d: %d; want %d", n, number, many-n)
		}
	}
	nodes[many-1].Deps = []int{0}
	if numbers := table.All(nodes); !slices.Equal(numbers, make([]int, many)) || table.Many() != many {
		t.Errorf("a long cycle has numbers, or adds inputs: %d", table.Many())
	}
}

func TestP14_3ManyUsersAndDeps(t *testing.T) {
	const many = 50000
	nodes := make([]api.Node, many)
	for n := range nodes {
		nodes[n].Variant.Label = strconv.Itoa(n)
	}
	for n := 1; n < many-1; n++ {
		nodes[n].Deps = []int{0, 0}
		nodes[many-1].Deps = append(nodes[many-1].Deps, n, 0)
	}
	for n, number := range New().All(nodes) {
		if number != n+1 {
			t.Fatalf("node %d: %d; want %d", n, number, n+1)
		}
	}
}

func TestP14_5NumbersDoNotDependOnThoseOfNodes(t *testing.T) {
	table := New()
	first := table.All(named("ABCD", nil, []int{0}, []int{0, 1}, []int{2}))
	if !slices.Equal(first, []int{1, 2, 3, 4}) {
		t.Fatalf("%v", first)
	}
	second := table.All(named("XDCBAY", []int{1}, []int{2}, []int{4, 3}, []int{4}, nil, []int{5}))
	if !slices.Equal(second, []int{5, 4, 3, 2, 1, 0}) {
		t.Errorf("%v", second)
	}
	third := table.All(named("DBCA", []int{2}, []int{3}, []int{1}, nil)) // C without the Dep A
	if !slices.Equal(third, []int{7, 2, 6, 1}) {
		t.Errorf("%v", third)
	}
}
