package graph

import (
	"slices"
	"strconv"
	"strings"
	"testing"

	"mainline/api"
	"mainline/samples"
)

func oneOf(below func(int) int, all ...string) string {
	return all[below(len(all))]
}

// randomVariant returns a variant whose label, mostly one of the package, others can name.
func randomVariant(below func(int) int, dir string) api.Variant {
	v := api.Variant{
		Label:    "//" + dir + ":" + oneOf(below, "x", "y", "a", "b"),
		Platform: oneOf(below, "any", "linux", "mac"),
		Kind:     below(5),
		Line:     below(4),
		Cost:     below(3),
	}
	if below(8) == 0 {
		v.Label = oneOf(below, "", "//", "//a:x", "//:", "//a/b:b", ":x")
	}
	for range below(3) {
		v.Visible = append(v.Visible, oneOf(below, "public", "//...", "//", "//a", "//b", "//a/...", "//b/...", "//a/b", "///...", "", "a"))
	}
	for range below(4) {
		text := oneOf(below, "", "//", "//a", "//b", "//a/b") + oneOf(below, "", ":x", ":y", ":b")
		v.Deps = append(v.Deps, api.Item{Text: text, Platform: oneOf(below, "", "", "linux", "any"), Line: below(9), Glob: below(4) == 0})
	}
	return v
}

func randomPackages(below func(int) int) []api.Package {
	var l []api.Package
	for range below(5) {
		p := pack(oneOf(below, "", "a", "b", "a/b", "b/a/b", "/", "aa"))
		for range below(5) {
			p.Variants = append(p.Variants, randomVariant(below, p.Dir))
		}
		l = append(l, p)
	}
	return l
}

// randomNodes returns nodes of which each depends on some of the few others behind it or, with cycles, around it.
func randomNodes(below func(int) int, many int, withCycles bool) []api.Node {
	nodes := make([]api.Node, many)
	names := make([]int, many) // so that dependencies are not always greater
	for n := range names {
		other := below(n + 1)
		names[n], names[other] = names[other], n
	}
	for n := range nodes {
		for range below(3) {
			dep := n + 1 + below(6)
			if withCycles && below(many) < 3 {
				dep = below(many)
			}
			if dep < many {
				dep = names[dep]
			}
			nodes[names[n]].Deps = append(nodes[names[n]].Deps, dep)
		}
	}
	return nodes
}

// TestP13_4RandomPackagesFollowTheWords checks all promises for many packages, and that each problem occurs in them.
func TestP13_4RandomPackagesFollowTheWords(t *testing.T) {
	occurs := map[api.Errno]int{}
	for seed := range uint32(20000) {
		nodes, problems := makes(t, randomPackages(samples.Below(seed)))
		for _, p := range problems {
			occurs[p.Kind]++
		}
		for _, node := range nodes {
			occurs[api.OK] += len(node.Deps)
		}
		if seed%10 == 0 {
			consequences(t, nodes, problems)
			orders(t, nodes)
		}
	}
	for _, e := range []api.Errno{api.OK, api.ErrDep, api.ErrVisible, api.ErrPlatform, api.ErrCycle} {
		if occurs[e] < 1000 {
			t.Errorf("error %d occurs %d times", e, occurs[e])
		}
	}
}

func TestP13_5RandomNodesFollowTheWords(t *testing.T) {
	ordered := 0
	for seed := range uint32(600) {
		below := samples.Below(seed)
		nodes := randomNodes(below, 1+below(60), seed%2 == 0)
		orders(t, nodes)
		reaches(t, nodes, []int{below(len(nodes)), below(len(nodes)), below(len(nodes)) - 1})
		makes(t, asVariants(depsOf(nodes)))
		if _, ok := Order(nodes); ok {
			ordered++
		}
	}
	if ordered < 300 || ordered > 500 {
		t.Errorf("%d of 600 are in order", ordered)
	}
}

// overwrite changes all that the lists of a node hold, and what lies behind them in their memory.
func overwrite(node *api.Node) {
	v := &node.Variant
	for i := range v.Files[:cap(v.Files)] {
		v.Files[:cap(v.Files)][i] = api.File{Path: "changed"}
	}
	for _, list := range [][]string{v.Outs[:cap(v.Outs)], v.Visible[:cap(v.Visible)]} {
		for i := range list {
			list[i] = "changed"
		}
	}
	for i := range v.Deps[:cap(v.Deps)] {
		v.Deps[:cap(v.Deps)][i] = api.Item{Text: "changed"}
	}
	for i := range node.Deps[:cap(node.Deps)] {
		node.Deps[:cap(node.Deps)][i] = -7
	}
}

// sharing returns packages whose variants have the same memory, with room behind their lists.
func sharing() []api.Package {
	files := append(make([]api.File, 0, 4), api.File{Path: "f", Id: 1})
	texts := append(make([]string, 0, 4), "public", "o")
	deps := append(make([]api.Item, 0, 8), api.Item{Text: ":x", Line: 1}, api.Item{Text: "//a:x", Line: 2}, api.Item{Text: "no", Line: 3}, api.Item{Text: "//a", Line: 4})
	var l []api.Package
	for _, dir := range []string{"", "a"} {
		p := pack(dir)
		for _, name := range []string{"x", "a"} {
			p.Variants = append(p.Variants, api.Variant{Label: "//" + dir + ":" + name, Platform: "any", Files: files, Outs: texts, Visible: texts, Deps: deps})
		}
		l = append(l, p)
	}
	return l
}

// TestR3ResultsAreNewMemory overwrites one node after the other: neither the others nor the packages nor later results change.
func TestR3ResultsAreNewMemory(t *testing.T) {
	l := sharing()
	want, _ := makeByWords(sharing())
	nodes, _ := makes(t, l)
	for n := range nodes {
		overwrite(&nodes[n])
		for m := n + 1; m < len(nodes); m++ {
			if !sameNode(nodes[m], want[m]) {
				t.Fatalf("after node %d: %+v; want %+v", n, nodes[m], want[m])
			}
		}
	}
	if again, _ := makes(t, l); !slices.EqualFunc(again, want, sameNode) {
		t.Errorf("%+v; want %+v", again, want)
	}
	v := l[0].Variants[0]
	if room := v.Deps[:cap(v.Deps)]; room[len(v.Deps)].Text != "" || v.Outs[:3][2] != "" || v.Files[:2][1].Path != "" {
		t.Errorf("the packages have changed: %+v", l)
	}
}

func TestR3ListsStayAsTheyAre(t *testing.T) {
	deps := [][]int{{3, 1, 3}, {2, 9}, nil, {2, -1}}
	nodes := nodesWith(deps[0], deps[1], deps[2], deps[3])
	list := []int{3, 9, 0, 0, 2}
	for range 2 {
		order, _ := Order(nodes)
		for _, result := range [][]int{order, Reach(nodes, list), Users(nodes, list)} {
			if len(result) != 4 {
				t.Errorf("%v", result)
			}
			for i := range result {
				result[i] = -7
			}
		}
		Find(nodes, "", "x")
	}
	if !slices.EqualFunc(depsOf(nodes), [][]int{{3, 1, 3}, {2, 9}, nil, {2, -1}}, slices.Equal[[]int]) || !slices.Equal(list, []int{3, 9, 0, 0, 2}) {
		t.Errorf("%v, %v", depsOf(nodes), list)
	}
}

func TestP1CallsEndForAllArguments(t *testing.T) {
	words := samples.Words(1, ":/a.\xff\x00")
	below := samples.Below(1)
	for range 3000 {
		var l []api.Package
		for range below(4) {
			p := pack(words(4))
			for range below(4) {
				v := visible(forPlatform(variant(words(4), below(3)-1, words(5), words(5)), words(1)), words(6), words(6))
				v.Deps[0].Platform = words(1)
				p.Variants = append(p.Variants, v)
			}
			l = append(l, p)
		}
		nodes, problems := makes(t, l)
		consequences(t, nodes, problems)
		for n := range nodes {
			nodes[n].Deps = append(nodes[n].Deps, noNodes(len(nodes))...)
		}
		orders(t, nodes)
		reaches(t, nodes, noNodes(len(nodes)))
		Find(nodes, words(3), words(1))
	}
}

// chain returns a package with variants of which each depends on the next one and, if it is closed, the last one on the first one.
func chain(many int, isClosed bool) []api.Package {
	p := pack("")
	for n := range many {
		v := variant("//:t"+strconv.Itoa(n), n+1)
		if n < many-1 || isClosed {
			v.Deps = []api.Item{{Text: ":t" + strconv.Itoa((n+1)%many), Line: n + 1}}
		}
		p.Variants = append(p.Variants, v)
	}
	return []api.Package{p}
}

// TestP1LongChains has ways through more nodes than a program has levels of nesting (2^16).
func TestP1LongChains(t *testing.T) {
	const many = 200000
	nodes, problems := Make(chain(many, false))
	order, ok := Order(nodes)
	if len(nodes) != many || len(problems) != 0 || !ok || len(order) != many || order[0] != many-1 || order[many-1] != 0 {
		t.Errorf("%d nodes, %d problems, %t", len(nodes), len(problems), ok)
	}
	if len(Reach(nodes, []int{1})) != many-1 || len(Users(nodes, []int{many - 2})) != many-1 {
		t.Error("a long chain is not followed")
	}
	nodes, problems = Make(chain(many, true))
	order, ok = Order(nodes)
	if shownProblems(problems) != "BUILD 1 53" || ok || len(order) != 0 || len(Reach(nodes, []int{7})) != many || len(Users(nodes, []int{7})) != many {
		t.Errorf("%d nodes, problems %s, %t", len(nodes), shownProblems(problems), ok)
	}
}

// TestP1WideGraphs has one target on which all others depend, and one that depends on all others, of many platforms and packages; it would take minutes if each dependency were compared with each variant, or with each text of Visible.
func TestP1WideGraphs(t *testing.T) {
	const many = 30000
	low, high := variant("//low:low", 1), variant("//high:high", 1)
	var l []api.Package
	for n := range many {
		dir := "d/p" + strconv.Itoa(n)
		low.Visible = append(low.Visible, "//"+dir, "//e/p"+strconv.Itoa(n)+"/...")
		high.Deps = append(high.Deps, api.Item{Text: "//" + dir + ":t", Line: n})
		l = append(l, pack(dir, visible(forPlatform(variant("//"+dir+":t", 1, "//low", ":t", "//low:low"), oneOf(samples.Below(uint32(n)), "any", "mac")), "public")))
	}
	l = append(l, pack("high", high, forPlatform(high, "mac")), pack("low", low))
	nodes, problems := Make(l)
	kinds := map[api.Errno]int{}
	for _, p := range problems {
		kinds[p.Kind]++
	}
	if len(nodes) != many+3 || len(nodes[0].Deps) != 2 || kinds[api.ErrDep] != 0 || kinds[api.ErrVisible] != 0 || kinds[api.ErrCycle] != many || len(nodes[many+1].Deps) != many || len(nodes[many].Deps)+kinds[api.ErrPlatform] != many {
		t.Errorf("%d nodes, problems %v", len(nodes), kinds)
	}
	if users := Users(nodes, []int{many + 2}); len(users) != many+3 {
		t.Errorf("%d users", len(users))
	}
}

// TestP1LongTexts has texts and directories as long as a file can be.
func TestP1LongTexts(t *testing.T) {
	long := strings.Repeat("a/", api.MaxText/2)
	for _, dir := range []string{long, long + "b", "/" + long} {
		target := visible(variant("//x:x", 1), "//"+long+"/...", "//b/...", "//"+long+"b")
		l := []api.Package{pack("x", target), pack(dir, variant("asks", 1, "//x", "//"+long, ":"+long, long))}
		makes(t, l)
	}
}
