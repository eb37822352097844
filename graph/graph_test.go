package graph

import (
	"slices"
	"testing"

	"mainline/api"
)

// nodesWith returns nodes with these Deps.
func nodesWith(deps ...[]int) []api.Node {
	var nodes []api.Node
	for _, list := range deps {
		nodes = append(nodes, api.Node{Deps: list})
	}
	return nodes
}

// exampleNodes returns the nodes of the chapter's example.
func exampleNodes(t *testing.T) []api.Node {
	t.Helper()
	nodes, _ := Make(built(t, example("visible \"//a\";", "")...))
	return nodes
}

func TestP13_5Order(t *testing.T) {
	if order, ok := Order(exampleNodes(t)); !ok || !slices.Equal(order, []int{2, 3, 4, 0, 1}) {
		t.Errorf("the example: %v, %t", order, ok)
	}
	for _, c := range []struct {
		deps [][]int
		want []int
	}{
		{nil, nil},
		{[][]int{nil}, []int{0}},
		{[][]int{nil, nil, nil}, []int{0, 1, 2}},
		{[][]int{{1}, {2}, {}}, []int{2, 1, 0}},
		{[][]int{{}, {0}, {1}}, []int{0, 1, 2}},
		{[][]int{{3}, {}, {}, {}}, []int{1, 2, 3, 0}},
		{[][]int{{1}, {}, {}, {}}, []int{1, 0, 2, 3}}, // a node comes as soon as it can, before greater ones that could before
		{[][]int{{4}, {}, {4}, {1}, {}}, []int{1, 3, 4, 0, 2}},
		{[][]int{{2, 1}, {2}, {}, {0}}, []int{2, 1, 0, 3}},
		{[][]int{{5}, {4}, {3}, {}, {}, {}, {0, 1, 2}}, []int{3, 2, 4, 1, 5, 0, 6}},
	} {
		order, ok := Order(nodesWith(c.deps...))
		if !ok || !slices.Equal(order, c.want) {
			t.Errorf("%v: %v, %t; want %v", c.deps, order, ok, c.want)
		}
	}
}

func TestP13_5Cycles(t *testing.T) {
	for _, deps := range [][][]int{{{0}}, {{1}, {0}}, {{}, {}, {2}}, {{}, {2}, {3}, {1}}, {{1}, {2}, {2, 3}, {}}, {{}, {0}, {1, 4}, {2}, {3}}} {
		if order, ok := Order(nodesWith(deps...)); ok || len(order) != 0 {
			t.Errorf("%v: %v, %t", deps, order, ok)
		}
	}
}

// TestP13_5AllSmallGraphs has Deps also in decreasing order, each twice, with numbers that are not those of nodes among them.
func TestP13_5AllSmallGraphs(t *testing.T) {
	for many := range 5 {
		graphs(many, func(deps [][]int) {
			orders(t, nodesWith(deps...))
			orders(t, nodesWith(disturbed(deps)...))
		})
	}
}

// disturbed returns lists with the same nodes in another order, each twice, and with others.
func disturbed(deps [][]int) [][]int {
	var all [][]int
	for _, list := range deps {
		other := slices.Concat(list, noNodes(len(deps)), list)
		slices.Reverse(other)
		all = append(all, other)
	}
	return all
}

func TestP13_5NumbersThatAreNotThoseOfNodes(t *testing.T) {
	for many := 1; many < 4; many++ {
		for _, none := range noNodes(many) {
			nodes := make([]api.Node, many)
			nodes[0].Deps = []int{none}
			nodes[many-1].Deps = append(nodes[many-1].Deps, none, none)
			orders(t, nodes)
			if order, ok := Order(nodes); !ok || len(order) != many {
				t.Errorf("%d of %d: %v, %t", none, many, order, ok)
			}
		}
	}
}

func TestP13_6Reach(t *testing.T) {
	nodes := exampleNodes(t)
	for _, c := range []struct{ from, want []int }{
		{nil, nil},
		{[]int{1}, []int{1, 3, 4}},
		{[]int{0}, []int{0, 2, 4}},
		{[]int{4}, []int{4}},
		{[]int{1, 0}, []int{0, 1, 2, 3, 4}},
		{[]int{4, 2, 4}, []int{2, 4}},
		{[]int{9, 3, -1, 5}, []int{3}},
		{[]int{5, -1}, nil},
	} {
		if is := Reach(nodes, c.from); !slices.Equal(is, c.want) {
			t.Errorf("%v: %v; want %v", c.from, is, c.want)
		}
	}
}

func TestP13_6Users(t *testing.T) {
	nodes := exampleNodes(t)
	for _, c := range []struct{ of, want []int }{
		{nil, nil},
		{[]int{4}, []int{0, 1, 4}},
		{[]int{3}, []int{1, 3}},
		{[]int{0}, []int{0}},
		{[]int{3, 2}, []int{0, 1, 2, 3}},
		{[]int{1, 0, 1}, []int{0, 1}},
		{[]int{7, 2, -5, 5}, []int{0, 2}},
		{[]int{5, -1}, nil},
	} {
		if is := Users(nodes, c.of); !slices.Equal(is, c.want) {
			t.Errorf("%v: %v; want %v", c.of, is, c.want)
		}
	}
}

// TestP13_6AllSmallGraphs asks for each node, each pair of them, and numbers that are not those of nodes.
func TestP13_6AllSmallGraphs(t *testing.T) {
	for many := range 4 {
		graphs(many, func(deps [][]int) {
			for _, nodes := range [][]api.Node{nodesWith(deps...), nodesWith(disturbed(deps)...)} {
				reaches(t, nodes, nil)
				reaches(t, nodes, noNodes(many))
				for a := range many {
					reaches(t, nodes, []int{a})
					reaches(t, nodes, append(noNodes(many), a, a))
					for b := range many {
						reaches(t, nodes, []int{b, a})
					}
				}
			}
		})
	}
}

func TestP13_7Find(t *testing.T) {
	nodes := exampleNodes(t)
	for n, node := range nodes {
		if is := Find(nodes, node.Variant.Label, node.Variant.Platform); is != n {
			t.Errorf("node %d: %d", n, is)
		}
	}
	for _, c := range [][2]string{{"//a:x", "any"}, {"//b:b", "linux"}, {"//a:z", "linux"}, {"", ""}, {"//a:x", ""}, {"", "linux"}, {"//b", "any"}, {"//b:b", "Any"}, {"//a:x linux", ""}, {"linux", "//a:x"}} {
		if is := Find(nodes, c[0], c[1]); is != -1 {
			t.Errorf("%q: %d", c, is)
		}
		if is := Find(nil, c[0], c[1]); is != -1 {
			t.Errorf("%q in no nodes: %d", c, is)
		}
	}
}

func TestP13_7FindTheFirstOne(t *testing.T) {
	var nodes []api.Node
	for _, name := range [][2]string{{"x", "p"}, {"x", "q"}, {"y", "p"}, {"x", "p"}, {"y", "p"}, {"", ""}, {"x", "q"}, {"", ""}} {
		nodes = append(nodes, api.Node{Variant: api.Variant{Label: name[0], Platform: name[1]}, Path: "z"})
	}
	for name, want := range map[[2]string]int{{"x", "p"}: 0, {"x", "q"}: 1, {"y", "p"}: 2, {"", ""}: 5, {"y", "q"}: -1, {"p", "x"}: -1, {"", "p"}: -1, {"z", ""}: -1} {
		if is := Find(nodes, name[0], name[1]); is != want {
			t.Errorf("%q: %d; want %d", name, is, want)
		}
	}
}

// consequences checks what follows from the promises for nodes that Make returns, with their problems.
func consequences(t *testing.T, nodes []api.Node, problems []api.Problem) {
	t.Helper()
	for m := range nodes {
		reach := Reach(nodes, []int{m})
		for n := range nodes {
			if slices.Contains(reach, n) != slices.Contains(Users(nodes, []int{n}), m) {
				t.Fatalf("%v: %d is in Reach of %d, or this one in Users of that one", depsOf(nodes), n, m)
			}
		}
	}
	order, ok := Order(nodes)
	if hasCycle := slices.ContainsFunc(problems, func(p api.Problem) bool { return p.Kind == api.ErrCycle }); hasCycle == ok {
		t.Fatalf("%v: Order says %t, problems are %v", depsOf(nodes), ok, problems)
	}
	for place, n := range order {
		for _, dep := range nodes[n].Deps {
			if slices.Index(order, dep) >= place {
				t.Fatalf("%v: %v", depsOf(nodes), order)
			}
		}
	}
	if ok && len(order) != len(nodes) {
		t.Fatalf("%v: %v", depsOf(nodes), order)
	}
}

func TestP13_8Consequences(t *testing.T) {
	for many := range 4 {
		graphs(many, func(deps [][]int) {
			nodes, problems := Make(asVariants(deps))
			consequences(t, nodes, problems)
		})
	}
}
