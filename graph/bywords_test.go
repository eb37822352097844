package graph

import (
	"fmt"
	"math"
	"slices"
	"strings"
	"testing"

	"mainline/api"
)

// The functions ...ByWords follow the chapter's words as literally as possible.

// labelByWords returns the label that a text denotes in a package with the directory dir.
func labelByWords(text, dir string) (string, bool) {
	if name, ok := strings.CutPrefix(text, ":"); ok {
		return "//" + dir + ":" + name, true
	}
	x, ok := strings.CutPrefix(text, "//")
	if !ok {
		return "", false
	}
	if strings.Count(text, ":") > 0 {
		return text, true
	}
	components := strings.Split(x, "/")
	return "//" + x + ":" + components[len(components)-1], true
}

func visibleByWords(target place, dir string) bool {
	if target.dir == dir {
		return true
	}
	for _, text := range target.variant.Visible {
		if text == "public" || text == "//"+dir || text == "//..." {
			return true
		}
		if strings.HasPrefix(text, "//") && strings.HasSuffix(text, "/...") && len(text) >= len("///...") {
			x := text[len("//") : len(text)-len("/...")]
			if dir == x || strings.HasPrefix(dir, x+"/") {
				return true
			}
		}
	}
	return false
}

// place is a variant with the directory of its package.
type place struct {
	dir     string
	variant api.Variant
}

func placesOf(l []api.Package) []place {
	var all []place
	for _, p := range l {
		for _, v := range p.Variants {
			all = append(all, place{p.Dir, v})
		}
	}
	return all
}

func firstByWords(all []place, is func(v api.Variant) bool) int {
	return slices.IndexFunc(all, func(p place) bool { return is(p.variant) })
}

// dependencyByWords returns the node on which a variant depends directly for an item of its Deps, or the problem.
func dependencyByWords(all []place, of place, item api.Item) (int, api.Errno) {
	label, denotes := labelByWords(item.Text, of.dir)
	first := firstByWords(all, func(v api.Variant) bool { return v.Label == label })
	if !denotes || first < 0 {
		return 0, api.ErrDep
	}
	if !visibleByWords(all[first], of.dir) {
		return 0, api.ErrVisible
	}
	same := firstByWords(all, func(v api.Variant) bool { return v.Label == label && v.Platform == of.variant.Platform })
	if same >= 0 {
		return same, api.OK
	}
	served := firstByWords(all, func(v api.Variant) bool { return v.Label == label && v.Platform == "any" })
	if served >= 0 {
		return served, api.OK
	}
	return 0, api.ErrPlatform
}

func makeByWords(l []api.Package) ([]api.Node, []api.Problem) {
	all := placesOf(l)
	var nodes []api.Node
	var problems []api.Problem
	report := func(p api.Problem) {
		if !slices.Contains(problems, p) {
			problems = append(problems, p)
		}
	}
	for _, of := range all {
		node := api.Node{Variant: of.variant, Path: of.dir + "/BUILD"}
		if of.dir == "" {
			node.Path = "BUILD"
		}
		found := map[int]bool{}
		for _, item := range of.variant.Deps {
			if item.Platform != "" && item.Platform != of.variant.Platform {
				continue
			}
			n, e := dependencyByWords(all, of, item)
			if e != api.OK {
				report(api.Problem{Path: node.Path, Line: item.Line, Kind: e})
			} else {
				found[n] = true
			}
		}
		for n := range all {
			if found[n] {
				node.Deps = append(node.Deps, n)
			}
		}
		nodes = append(nodes, node)
	}
	for _, n := range leastByWords(nodes) {
		report(api.Problem{Path: nodes[n].Path, Line: nodes[n].Variant.Line, Kind: api.ErrCycle})
	}
	return nodes, problems
}

// dependsByWords tells, for each two nodes, whether the first one depends on the second one.
func dependsByWords(nodes []api.Node) [][]bool {
	depends := make([][]bool, len(nodes))
	for n := range nodes {
		depends[n] = make([]bool, len(nodes))
		for m := range nodes {
			depends[n][m] = slices.Contains(nodes[n].Deps, m)
		}
	}
	for over := range nodes {
		for n := range nodes {
			for m := range nodes {
				depends[n][m] = depends[n][m] || depends[n][over] && depends[over][m]
			}
		}
	}
	return depends
}

// leastByWords returns the nodes that depend on themselves, and on no lesser node that depends on them.
func leastByWords(nodes []api.Node) []int {
	depends := dependsByWords(nodes)
	var least []int
	for n := range nodes {
		isLeast := depends[n][n]
		for m := range n {
			isLeast = isLeast && !(depends[n][m] && depends[m][n])
		}
		if isLeast {
			least = append(least, n)
		}
	}
	return least
}

func orderByWords(nodes []api.Node) ([]int, bool) {
	if len(leastByWords(nodes)) > 0 {
		return nil, false
	}
	var order []int
	for range nodes {
		for n := range nodes {
			if slices.Contains(order, n) {
				continue
			}
			if !slices.ContainsFunc(nodes[n].Deps, func(dep int) bool {
				return dep >= 0 && dep < len(nodes) && !slices.Contains(order, dep)
			}) {
				order = append(order, n)
				break
			}
		}
	}
	return order, true
}

func reachByWords(nodes []api.Node, from []int) []int {
	depends := dependsByWords(nodes)
	var all []int
	for n := range nodes {
		if slices.ContainsFunc(from, func(m int) bool { return m == n || m >= 0 && m < len(nodes) && depends[m][n] }) {
			all = append(all, n)
		}
	}
	return all
}

func usersByWords(nodes []api.Node, of []int) []int {
	depends := dependsByWords(nodes)
	var all []int
	for n := range nodes {
		if slices.ContainsFunc(of, func(m int) bool { return m == n || m >= 0 && m < len(nodes) && depends[n][m] }) {
			all = append(all, n)
		}
	}
	return all
}

func sameVariant(a, b api.Variant) bool {
	return a.Label == b.Label && a.Platform == b.Platform && a.Kind == b.Kind && a.Line == b.Line && slices.Equal(a.Files, b.Files) && slices.Equal(a.Outs, b.Outs) && slices.Equal(a.Deps, b.Deps) && slices.Equal(a.Visible, b.Visible) && a.Cost == b.Cost && a.Retry == b.Retry
}

func sameNode(a, b api.Node) bool {
	return sameVariant(a.Variant, b.Variant) && a.Path == b.Path && slices.Equal(a.Deps, b.Deps)
}

// makes checks Make against the words, and returns its results.
func makes(t *testing.T, l []api.Package) ([]api.Node, []api.Problem) {
	t.Helper()
	nodes, problems := Make(l)
	wantNodes, wantProblems := makeByWords(l)
	if !slices.EqualFunc(nodes, wantNodes, sameNode) {
		t.Fatalf("%+v: nodes %+v; want %+v", l, nodes, wantNodes)
	}
	if !slices.Equal(problems, wantProblems) {
		t.Fatalf("%+v: problems %v; want %v", l, problems, wantProblems)
	}
	return nodes, problems
}

// orders checks Order against the words.
func orders(t *testing.T, nodes []api.Node) {
	t.Helper()
	order, ok := Order(nodes)
	want, wantOk := orderByWords(nodes)
	if !slices.Equal(order, want) || ok != wantOk {
		t.Fatalf("Order of %v: %v, %t; want %v, %t", depsOf(nodes), order, ok, want, wantOk)
	}
}

// reaches checks Reach and Users against the words.
func reaches(t *testing.T, nodes []api.Node, list []int) {
	t.Helper()
	if is, want := Reach(nodes, list), reachByWords(nodes, list); !slices.Equal(is, want) {
		t.Fatalf("Reach of %v in %v: %v; want %v", list, depsOf(nodes), is, want)
	}
	if is, want := Users(nodes, list), usersByWords(nodes, list); !slices.Equal(is, want) {
		t.Fatalf("Users of %v in %v: %v; want %v", list, depsOf(nodes), is, want)
	}
}

func depsOf(nodes []api.Node) [][]int {
	var all [][]int
	for _, node := range nodes {
		all = append(all, node.Deps)
	}
	return all
}

// shownDeps returns the Deps of nodes as a string: a group for each node.
func shownDeps(nodes []api.Node) string {
	return fmt.Sprint(depsOf(nodes))
}

// shownProblems returns problems as a string: the path, the line and the kind of each.
func shownProblems(problems []api.Problem) string {
	var all []string
	for _, p := range problems {
		all = append(all, fmt.Sprint(p.Path, " ", p.Line, " ", int(p.Kind)))
	}
	return strings.Join(all, "; ")
}

// noNodes returns numbers that are not those of so many nodes.
func noNodes(many int) []int {
	return []int{-1, -2, -many, -many - 1, many, many + 1, 2*many + 1, math.MaxInt, math.MaxInt - 1, math.MinInt, math.MinInt + 1, 1 << 32, 1<<32 + many, -1 << 32}
}
