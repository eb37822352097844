package affected

import (
	"math"
	"reflect"
	"slices"
	"strconv"
	"strings"
	"testing"

	"mainline/api"
)

// node returns a node with this label for the platform any; its file has the contents id.
func node(label string, id int, deps ...int) api.Node {
	return api.Node{
		Variant: api.Variant{Label: label, Platform: "any", Kind: api.Lib, Files: []api.File{{Path: "f", Id: id}}, Cost: 1},
		Deps:    deps,
	}
}

func forPlatform(platform string, n api.Node) api.Node {
	n.Variant.Platform = platform
	return n
}

func effect(label, platform string, why int, via string) api.Effect {
	return api.Effect{Label: label, Platform: platform, Why: why, Via: via}
}

// full returns a node all of whose fields are set.
func full() api.Node {
	return api.Node{
		Path: "a/BUILD",
		Deps: []int{0},
		Variant: api.Variant{
			Label:    "//a:b",
			Platform: "linux",
			Kind:     api.Gen,
			Line:     7,
			Files:    []api.File{{Path: "a/x", Id: 3}, {Path: "a/y", Id: 4}},
			Outs:     []string{"o", "p"},
			Deps:     []api.Item{{Text: ":c", Platform: "linux", Line: 8}},
			Visible:  []string{"public"},
			Cost:     2,
			Retry:    1,
		},
	}
}

// example returns the chapter's example.
func example() graphs {
	return graphs{
		before: []api.Node{node("a", 1), node("b", 1, 0), node("c", 1)},
		after:  []api.Node{node("a", 2), node("b", 1, 0), node("d", 1)},
		x:      []int{1, 2, 3},
		y:      []int{4, 5, 6},
	}
}

// shown writes effects in a short form: the first letters of reasons, and after the platform the label of Via.
func shown(effects []api.Effect) string {
	var l []string
	for _, e := range effects {
		via := ""
		if e.Via != "" {
			via = " via " + e.Via
		}
		why := "?"
		if e.Why >= api.AffNew && e.Why <= api.AffDeps {
			why = []string{"new", "gone", "files", "deps"}[e.Why-api.AffNew]
		}
		l = append(l, strings.TrimSuffix(e.Label+" "+e.Platform, " any")+" "+why+via)
	}
	return strings.Join(l, ", ")
}

func isShown(t *testing.T, g graphs, want string) {
	t.Helper()
	if l := shown(g.check(t)); l != want {
		t.Errorf("Compare of %v: %s; want %s", g, l, want)
	}
}

func TestP15_1Example(t *testing.T) {
	isShown(t, example(), "a files, b deps via a, c gone, d new")
	g := example()
	want := []api.Effect{effect("a", "any", api.AffFiles, ""), effect("b", "any", api.AffDeps, "a"), effect("c", "any", api.AffGone, ""), effect("d", "any", api.AffNew, "")}
	if effects := Compare(g.before, g.after, g.x, g.y); !slices.Equal(effects, want) {
		t.Errorf("%v; want %v", effects, want)
	}
}

func TestP15_1EmptyGraphs(t *testing.T) {
	isShown(t, graphs{}, "")
	isShown(t, graphs{x: []int{1}, y: []int{2, 3}}, "")
	isShown(t, graphs{before: []api.Node{node("a", 1), node("b", 1)}, x: []int{1, 2}}, "a gone, b gone")
	isShown(t, graphs{after: []api.Node{node("b", 1, 1), node("a", 1)}, y: []int{1, 2}}, "a new, b new")
}

// TestP15_1OrderOfTargets has labels and platforms whose order is another one as words, as runes, or when both are written one behind the other.
func TestP15_1OrderOfTargets(t *testing.T) {
	want := []target{
		{"", ""}, {"", "z"}, {"\x00", "b"}, {"B", "a"}, {"a", ""}, {"a", "Z"}, {"a", "any"}, {"a", "b"}, {"a", "z"}, {"a\x00", "a"},
		{"a:b", "a"}, {"aa", ""}, {"aa", "b"}, {"b", "linux"}, {"b", "linux2"}, {"b", "mac"}, {"\uffff", "a"}, {"\U00010000", "a"}, {"\xff", ""}, {"\xff", "\xff"},
	}
	for shift := range want {
		var g graphs
		for i := range want {
			w := want[(i*7+shift)%len(want)]
			n := forPlatform(w.platform, node(w.label, 1))
			if i%3 == 0 {
				g.before = append(g.before, n)
			}
			if i%3 != 1 {
				g.after = append(g.after, n)
			}
			if i%3 == 1 {
				g.before = append(g.before, n)
			}
		}
		var got []target
		for _, e := range g.check(t) {
			got = append(got, target{e.Label, e.Platform})
		}
		if !slices.Equal(got, want) {
			t.Fatalf("%q; want %q", got, want)
		}
	}
}

// TestP15_1FilesAndAttributes changes one field after the other; the keys are equal all the same.
func TestP15_1FilesAndAttributes(t *testing.T) {
	for i, change := range []func(v *api.Variant){
		func(v *api.Variant) { v.Kind = api.Test },
		func(v *api.Variant) { v.Kind = -v.Kind },
		func(v *api.Variant) { v.Kind = 0 },
		func(v *api.Variant) { v.Cost = 3 },
		func(v *api.Variant) { v.Cost = 2 + 1<<32 },
		func(v *api.Variant) { v.Retry = 0 },
		func(v *api.Variant) { v.Retry = math.MinInt },
		func(v *api.Variant) { v.Cost, v.Retry = v.Retry, v.Cost },
		func(v *api.Variant) { v.Files = nil },
		func(v *api.Variant) { v.Files = v.Files[:1] },
		func(v *api.Variant) { v.Files = append(v.Files, v.Files[1]) },
		func(v *api.Variant) { slices.Reverse(v.Files) },
		func(v *api.Variant) { v.Files[0].Path = "a/z" },
		func(v *api.Variant) { v.Files[1].Id = 5 },
		func(v *api.Variant) { v.Files[0].Id, v.Files[1].Id = 4, 3 },
		func(v *api.Variant) { v.Outs = nil },
		func(v *api.Variant) { v.Outs = v.Outs[1:] },
		func(v *api.Variant) { v.Outs = append(v.Outs, "") },
		func(v *api.Variant) { slices.Reverse(v.Outs) },
		func(v *api.Variant) { v.Outs = []string{"op"} },
		func(v *api.Variant) { v.Outs[1] = "o" },
	} {
		changed := full()
		change(&changed.Variant)
		for _, key := range []int{1, 2, 0} {
			for _, g := range []graphs{
				{[]api.Node{full()}, []api.Node{changed}, []int{1}, []int{key}},
				{[]api.Node{changed}, []api.Node{full()}, []int{1}, []int{key}},
			} {
				if l := shown(g.check(t)); l != "//a:b linux files" {
					t.Errorf("change %d: %s", i, l)
				}
			}
		}
	}
}

func TestP15_1NothingElseOfVariantsCounts(t *testing.T) {
	for i, change := range []func(n *api.Node){
		func(n *api.Node) { n.Path = "" },
		func(n *api.Node) { n.Variant.Line = -1 },
		func(n *api.Node) { n.Variant.Deps = nil },
		func(n *api.Node) { n.Variant.Deps[0].Text = ":d" },
		func(n *api.Node) { n.Variant.Visible = nil },
		func(n *api.Node) { n.Variant.Visible[0] = "//a" },
	} {
		changed := full()
		change(&changed)
		g := graphs{[]api.Node{full()}, []api.Node{changed}, []int{1}, []int{1}}
		if l := shown(g.check(t)); l != "" {
			t.Errorf("change %d: %s", i, l)
		}
	}
}

func TestP15_1NilAndEmptyListsDoNotDiffer(t *testing.T) {
	bare := api.Node{Variant: api.Variant{Label: "a", Platform: "any"}}
	empty := bare
	empty.Variant.Files, empty.Variant.Outs, empty.Deps = []api.File{}, []string{}, []int{}
	isShown(t, graphs{[]api.Node{bare}, []api.Node{empty}, []int{1}, []int{1}}, "")
	isShown(t, graphs{[]api.Node{empty}, []api.Node{bare}, []int{1}, []int{1}}, "")
}

// TestP15_1LabelsOfDependencies has a target t, whose dependencies are among these nodes, with equal keys in both graphs.
func TestP15_1LabelsOfDependencies(t *testing.T) {
	others := []api.Node{node("a", 1), node("b", 1), node("c", 1), forPlatform("mac", node("a", 1)), forPlatform("linux", node("a", 1)), node("", 1)}
	keys := []int{1, 2, 3, 4, 5, 6, 7}
	for _, c := range []struct {
		before, after []int
		want          string
	}{
		{nil, nil, ""},
		{[]int{0}, []int{0}, ""},
		{[]int{0}, nil, "t files"},
		{nil, []int{0}, "t files"},
		{[]int{0}, []int{1}, "t files"},
		{[]int{0, 1}, []int{1, 0}, ""},
		{[]int{0, 1}, []int{1, 0, 0, 1}, ""},
		{[]int{2, 2, 0}, []int{0, 2}, ""},
		{[]int{0, 0, 1}, []int{0, 1, 2}, "t files"},
		{[]int{0, 1, 2}, []int{0, 1}, "t files"},
		{[]int{0, 2}, []int{0, 1}, "t files"},
		{[]int{0}, []int{3}, ""},
		{[]int{0, 3, 4}, []int{4}, ""},
		{[]int{1, 3}, []int{4, 1, 0}, ""},
		{[]int{3}, []int{3, 1}, "t files"},
		{[]int{5}, nil, "t files"},
		{[]int{5}, []int{5}, ""},
		{[]int{6}, nil, "t files"}, // t itself
		{[]int{6}, []int{6}, ""},
		{[]int{7, -1}, nil, ""},
		{nil, []int{7, math.MaxInt, math.MinInt, 1 << 32, -1 << 32}, ""},
		{[]int{-1, 0, 99}, []int{0, 7}, ""},
		{[]int{-1, 0}, []int{-1, 1}, "t files"},
	} {
		g := graphs{append(slices.Clone(others), node("t", 1, c.before...)), append(slices.Clone(others), node("t", 1, c.after...)), keys, keys}
		isShown(t, g, c.want)
	}
}

// TestP15_1DependenciesAtOtherPlaces has the same labels of dependencies with other numbers, and other labels with the same numbers.
func TestP15_1DependenciesAtOtherPlaces(t *testing.T) {
	g := graphs{
		before: []api.Node{node("a", 1), node("b", 1), node("t", 1, 0), node("u", 1, 0, 5)},
		after:  []api.Node{node("u", 1, 1), node("b", 1), node("t", 1, 3), node("a", 1)},
		x:      []int{1, 2, 3, 4},
		y:      []int{4, 2, 3, 1},
	}
	isShown(t, g, "u files")
	g.after[0].Deps = []int{3, 2}
	isShown(t, g, "u files")
	g.after[0].Deps = []int{3}
	isShown(t, g, "")
}

func TestP15_1Keys(t *testing.T) {
	for _, c := range []struct {
		x, y []int
		want string
	}{
		{[]int{1}, []int{1}, ""},
		{[]int{-1}, []int{-1}, ""},
		{[]int{math.MinInt}, []int{math.MinInt}, ""},
		{[]int{1}, []int{2}, "a deps"},
		{[]int{2}, []int{1}, "a deps"},
		{[]int{1}, []int{-1}, "a deps"},
		{[]int{1}, []int{1 + 1<<32}, "a deps"},
		{[]int{0}, []int{1}, "a deps"},
		{[]int{1}, []int{0}, "a deps"},
		{[]int{0}, []int{0}, "a deps"},
		{nil, []int{1}, "a deps"},
		{[]int{1}, nil, "a deps"},
		{nil, nil, "a deps"},
		{nil, []int{0}, "a deps"},
		{[]int{1, 2}, []int{1, 3, 4}, ""},
	} {
		isShown(t, graphs{[]api.Node{node("a", 1)}, []api.Node{node("a", 1)}, c.x, c.y}, c.want)
	}
	isShown(t, graphs{[]api.Node{node("a", 1), node("b", 1), node("c", 1)}, []api.Node{node("c", 1), node("b", 1), node("a", 1)}, []int{1, 2, 3}, []int{3, 2, 1}}, "")
	isShown(t, graphs{[]api.Node{node("a", 1), node("b", 1), node("c", 1)}, []api.Node{node("c", 1), node("b", 1), node("a", 1)}, []int{1, 2}, []int{3, 2}}, "a deps, c deps")
}

// TestP15_1EarlierReasonsComeFirst has targets to which several lines of the table apply.
func TestP15_1EarlierReasonsComeFirst(t *testing.T) {
	g := graphs{
		before: []api.Node{node("g", 1), node("f", 1, 0), node("l", 1, 0)},
		after:  []api.Node{node("n", 1), node("f", 2, 0), node("l", 1, 0)},
	}
	isShown(t, g, "f files, g gone, l files, n new")
}

func TestP15_1Via(t *testing.T) {
	after := func(deps ...int) []api.Node {
		return []api.Node{node("c", 2), node("b", 2), node("a", 1), node("d", 1, 0), node("t", 1, deps...), forPlatform("mac", node("a", 2)), node("", 2)}
	}
	for _, c := range []struct {
		deps []int
		want string
	}{
		{nil, ""},
		{[]int{0}, "c"},
		{[]int{0, 1}, "b"},
		{[]int{1, 0}, "b"},
		{[]int{2}, ""}, // not affected
		{[]int{2, 0}, "c"},
		{[]int{3}, "d"},
		{[]int{3, 2, 0, 0}, "c"},
		{[]int{5, 1}, "a"}, // affected for this platform
		{[]int{2, 5}, "a"},
		{[]int{2, 1}, "b"},
		{[]int{4}, "t"},
		{[]int{4, 0}, "c"},
		{[]int{6, 0}, ""}, // the least label is empty
		{[]int{-1, 7, math.MaxInt, math.MinInt}, ""},
		{[]int{-1, 7, 3}, "d"},
	} {
		before := after(c.deps...)
		for _, n := range []int{0, 1, 5, 6} {
			before[n].Variant.Files = nil
		}
		g := graphs{before, after(c.deps...), []int{1, 2, 3, 4, 5, 6, 7}, []int{11, 12, 3, 14, 15, 16, 17}}
		effects := g.check(t)
		want := api.Effect{Label: "t", Platform: "any", Why: api.AffDeps, Via: c.want}
		if !slices.Contains(effects, want) {
			t.Errorf("%v: %v; want %v", c.deps, effects, want)
		}
	}
}

// TestP15_1ViaIsOfTheGraphAfter has dependencies of the same label and of other platforms, and of equal ones at other places.
func TestP15_1ViaIsOfTheGraphAfter(t *testing.T) {
	g := graphs{
		before: []api.Node{node("t", 1, 1, 2), forPlatform("linux", node("a", 1)), node("b", 1), node("a", 1)},
		after:  []api.Node{node("t", 1, 3, 2), node("b", 1), node("b", 1), node("a", 1), forPlatform("linux", node("a", 2))},
		x:      []int{1, 2, 3, 4},
		y:      []int{9, 8, 3, 4, 7},
	}
	isShown(t, g, "a linux files, b deps, t deps via b")
	g.y[1] = 3
	isShown(t, g, "a linux files, t deps")
	g.after[0].Deps = []int{1, 4}
	isShown(t, g, "a linux files, t deps via a")
}

func TestP15_1ViaIsEmptyForOtherReasons(t *testing.T) {
	g := graphs{
		before: []api.Node{node("a", 1), node("f", 1, 0), node("g", 1, 0), node("l", 1, 0)},
		after:  []api.Node{node("a", 2), node("f", 2, 0), node("l", 1, 0, 1), node("n", 1, 0)},
		x:      []int{1, 2, 3, 4},
		y:      []int{11, 12, 14, 15},
	}
	isShown(t, g, "a files, f files, g gone, l files, n new")
}

// TestP15_1FirstNodes has targets with several nodes, of which the first one counts, also for those that depend on another one.
func TestP15_1FirstNodes(t *testing.T) {
	g := graphs{
		before: []api.Node{node("a", 1), node("a", 2), node("t", 1, 1), node("t", 1, 0)},
		after:  []api.Node{node("a", 1), node("a", 3), node("t", 1, 1), node("t", 2)},
		x:      []int{1, 2, 3, 4},
		y:      []int{1, 12, 13, 14},
	}
	isShown(t, g, "t deps")
	g.y[0] = 5
	isShown(t, g, "a deps, t deps via a")
	g.after[0], g.after[1] = g.after[1], g.after[0]
	isShown(t, g, "a files, t deps via a")
	g.after[2], g.after[3] = g.after[3], g.after[2]
	isShown(t, g, "a files, t files")
}

func TestP15_2Required(t *testing.T) {
	g := example()
	for _, c := range []struct {
		x, y []int
		want []int
	}{
		{g.x, g.y, []int{0, 1, 2}},
		{nil, g.y, []int{0, 1, 2}},
		{g.y, g.y, nil},
		{[]int{6, 4, 6}, g.y, []int{1}},
		{[]int{9, 9, 9, 9, 5}, g.y, []int{0, 2}}, // further keys of x count
		{g.x, nil, nil},
		{g.x, []int{0, 0, 0}, nil},
		{nil, []int{0, 1, 0}, []int{1}},
		{[]int{0}, []int{0, 1, 0}, []int{1}},
		{[]int{2}, []int{3, 2}, []int{0}},
		{nil, []int{7, 7, 7}, []int{0, 1, 2}},
		{[]int{7}, []int{7, 7, 7}, nil},
		{[]int{1}, []int{1, -1, math.MinInt}, []int{1, 2}},
		{[]int{-1, math.MinInt}, []int{1, -1, math.MinInt}, []int{0}},
		{[]int{1}, []int{1 + 1<<32, 1, 1 - 1<<32}, []int{0, 2}},
		{nil, []int{1, 2, 3, 4, 5}, []int{0, 1, 2}}, // further keys of y do not
	} {
		if l := Required(c.x, g.after, c.y); !slices.Equal(l, c.want) {
			t.Errorf("Required(%v, _, %v): %v; want %v", c.x, c.y, l, c.want)
		}
	}
	if l := Required(nil, nil, []int{1}); len(l) != 0 {
		t.Errorf("%v of no nodes", l)
	}
}

func isChain(t *testing.T, effects []api.Effect, label, platform, want string) {
	t.Helper()
	isChainByWords(t, effects, label, platform)
	if l := strings.Join(Chain(effects, label, platform), " "); l != want {
		t.Errorf("Chain(%v, %q, %q): %q; want %q", effects, label, platform, l, want)
	}
}

func TestP15_3Example(t *testing.T) {
	g := example()
	effects := g.check(t)
	isChain(t, effects, "a", "any", "a")
	isChain(t, effects, "b", "any", "b a")
	isChain(t, effects, "c", "any", "c")
	isChain(t, effects, "d", "any", "d")
	isChain(t, effects, "e", "any", "")
	isChain(t, effects, "b", "linux", "")
	isChain(t, effects, "b", "", "")
	isChain(t, effects, "", "any", "")
	isChain(t, nil, "a", "any", "")
}

func TestP15_3Platforms(t *testing.T) {
	effects := []api.Effect{
		effect("a", "any", api.AffNew, ""),
		effect("b", "any", api.AffDeps, "x"),
		effect("b", "linux", api.AffFiles, "a"),
		effect("b", "mac", api.AffDeps, "a"),
		effect("c", "linux", api.AffDeps, "b"),
		effect("c", "mac", api.AffDeps, "b"),
		effect("c", "other", api.AffDeps, "b"),
		effect("d", "other", api.AffDeps, "e"),
		effect("e", "any", api.AffDeps, "c"),
		effect("e", "linux", api.AffGone, ""),
	}
	isChain(t, effects, "c", "linux", "c b")
	isChain(t, effects, "c", "mac", "c b a")
	isChain(t, effects, "c", "other", "c b x") // no effect for other, and none with x
	isChain(t, effects, "d", "other", "d e c b x")
	isChain(t, effects, "d", "any", "")
	isChain(t, effects, "c", "any", "")
	isChain(t, effects, "x", "any", "")
}

// TestP15_3FirstEffects has effects in an order that is not that of Compare, and several ones of a target.
func TestP15_3FirstEffects(t *testing.T) {
	effects := []api.Effect{
		effect("t", "p", api.AffDeps, "u"),
		effect("t", "p", api.AffNew, ""),
		effect("u", "z", api.AffDeps, "b"),
		effect("u", "a", api.AffDeps, "c"),
		effect("u", "z", api.AffDeps, "d"),
		effect("s", "p", api.AffDeps, "t"),
		effect("s", "a", api.AffDeps, "t"),
	}
	isChain(t, effects, "t", "p", "t u b")
	isChain(t, effects, "s", "p", "s t u b")
	isChain(t, effects, "s", "a", "s t u c")
	isChain(t, effects, "u", "z", "u b")
	isChain(t, effects, "u", "a", "u c")
}

func TestP15_3OnlyDependenciesLeadOn(t *testing.T) {
	for _, why := range []int{0, -1, api.AffNew, api.AffGone, api.AffFiles, 5, api.AffDeps + 1<<32, math.MinInt, math.MaxInt} {
		effects := []api.Effect{effect("a", "", why, "b"), effect("b", "", api.AffNew, ""), effect("c", "", api.AffDeps, "a")}
		isChain(t, effects, "a", "", "a")
		isChain(t, effects, "c", "", "c a")
	}
	isChain(t, []api.Effect{effect("a", "", api.AffDeps, ""), effect("", "", api.AffNew, "")}, "a", "", "a")
}

func TestP15_3LabelThatIsEmpty(t *testing.T) {
	effects := []api.Effect{effect("", "", api.AffDeps, "a"), effect("a", "", api.AffDeps, "")}
	if l := Chain(effects, "", ""); !slices.Equal(l, []string{"", "a"}) {
		t.Errorf("%q", l)
	}
	if l := Chain(effects[:1], "", ""); !slices.Equal(l, []string{"", "a"}) {
		t.Errorf("%q", l)
	}
	if l := Chain([]api.Effect{effect("", "", api.AffNew, "")}, "", ""); !slices.Equal(l, []string{""}) {
		t.Errorf("%q", l)
	}
}

func TestP15_3Cycles(t *testing.T) {
	effects := []api.Effect{effect("a", "", api.AffDeps, "a"), effect("b", "", api.AffDeps, "c"), effect("c", "", api.AffDeps, "d"), effect("d", "", api.AffDeps, "b"), effect("e", "", api.AffDeps, "c")}
	isChain(t, effects, "a", "", "a")
	isChain(t, effects, "b", "", "b c d")
	isChain(t, effects, "d", "", "d b c")
	isChain(t, effects, "e", "", "e c d b")
	isChain(t, []api.Effect{effect("a", "p", api.AffDeps, "b"), effect("a", "q", api.AffNew, ""), effect("b", "p", api.AffDeps, "a")}, "a", "p", "a b")
}

func TestP15_4EqualGraphs(t *testing.T) {
	nodes := []api.Node{node("b", 1, 1, 1, 2), node("a", 1, 3, -1), node("a", 2), full()}
	isShown(t, graphs{nodes, slices.Clone(nodes), []int{1, 2, -3, 4}, []int{1, 2, -3, 4}}, "")
	if l := Required([]int{1, 2, -3, 4}, nodes, []int{1, 2, -3, 4}); len(l) != 0 {
		t.Errorf("%v are required", l)
	}
	isShown(t, graphs{nodes, nodes, []int{0, 0, 3, 4}, []int{0, 0, 3, 4}}, "a deps, b deps via a")
}

func overwriteNodes(nodes []api.Node) {
	for n := range nodes {
		v := &nodes[n].Variant
		for i := range v.Files {
			v.Files[i] = api.File{Path: "changed", Id: -9}
		}
		for i := range v.Outs {
			v.Outs[i] = "changed"
		}
		for i := range nodes[n].Deps {
			nodes[n].Deps[i] = -9
		}
		v.Label, v.Platform = "changed", "changed"
	}
}

func TestR3ResultsShareNoMemory(t *testing.T) {
	g := example()
	effects, required := Compare(g.before, g.after, g.x, g.y), Required(g.x, g.after, g.y)
	chain := Chain(effects, "b", "any")
	again := Compare(g.before, g.after, g.x, g.y)
	overwriteNodes(g.before)
	overwriteNodes(g.after)
	for i := range g.x {
		g.x[i], g.y[i] = -9, -9
	}
	for i := range again[:cap(again)] {
		again[:cap(again)][i] = api.Effect{Label: "changed"}
	}
	if l := shown(effects); l != "a files, b deps via a, c gone, d new" || !slices.Equal(required, []int{0, 1, 2}) {
		t.Errorf("%s, %v", l, required)
	}
	for i := range effects {
		effects[i] = api.Effect{}
	}
	if !slices.Equal(chain, []string{"b", "a"}) {
		t.Errorf("%v", chain)
	}
}

func TestR3ArgumentsAreNotModified(t *testing.T) {
	unordered := func() graphs {
		return graphs{
			before: []api.Node{node("b", 1, 2, 1, 1, -1), node("a", 1), full()},
			after:  []api.Node{full(), node("a", 2, 1, 0, 9), node("b", 1, 1, 0, 1)},
			x:      []int{3, 1, 2},
			y:      []int{9, 2, 9},
		}
	}
	g := unordered()
	effects := Compare(g.before, g.after, g.x, g.y)
	Required(g.x, g.after, g.y)
	slices.Reverse(effects)
	same := slices.Clone(effects)
	Chain(effects, "b", "any")
	if !reflect.DeepEqual(g, unordered()) || !slices.Equal(effects, same) {
		t.Errorf("the arguments are %v and %v", g, effects)
	}
}

// TestP1AnyArguments calls everything with arguments that make no sense.
func TestP1AnyArguments(t *testing.T) {
	for _, n := range []int{0, -1, 1, 2, math.MaxInt, math.MinInt, 1 << 32, -1 << 32} {
		strange := []api.Node{{Deps: []int{n, -n, n - 1}}, {Variant: api.Variant{Kind: n, Cost: n, Retry: n, Files: make([]api.File, 2)}, Deps: []int{n}}, {Variant: api.Variant{Label: "\xff"}, Deps: []int{2, n}}}
		for _, x := range [][]int{nil, {n}, {n, -n, n, n, n}} {
			for _, g := range []graphs{{strange, strange, x, x}, {strange[1:], strange, x, nil}, {strange, strange[:1], nil, x}, {nil, strange, x, x}} {
				effects := g.check(t)
				for i := range effects {
					effects[i].Why = n
				}
				isChainByWords(t, effects, "", "")
			}
		}
	}
}

// TestP1LargeGraphs has a long chain of targets, and targets with many dependencies and users; it would take minutes if nodes or effects were searched one by one.
func TestP1LargeGraphs(t *testing.T) {
	const many = 100000
	large := func(id int) []api.Node {
		var nodes []api.Node
		for n := range many {
			nodes = append(nodes, node("//:"+strconv.Itoa(many*2-n), 1, n+1, 0))
		}
		nodes[many-1] = node("//:last", id, many)
		all := node("//:all", 1)
		for n := range many {
			all.Deps = append(all.Deps, n, 0)
		}
		return append(nodes, all, node("//:all", 1))
	}
	x, y := make([]int, many+2), make([]int, many+2)
	for n := range x {
		x[n], y[n] = n+1, many*2+n
	}
	after := large(2)
	effects := Compare(large(1), after, x, y)
	if l := shown(slices.Concat(effects[:1], effects[many-1:])); l != "//:100002 deps via //:200000, //:all deps via //:100002, //:last files" {
		t.Errorf("%d effects, among them %s", len(effects), l)
	}
	if l := Required(x, after, y); len(l) != many+2 {
		t.Errorf("%d nodes are required", len(l))
	}
	for n := range effects {
		effects[n] = api.Effect{Label: strconv.Itoa(n), Platform: strconv.Itoa(n % 2), Why: api.AffDeps, Via: strconv.Itoa(n + 1)}
	}
	if l := Chain(effects, "0", "0"); len(l) != many+2 {
		t.Errorf("a chain of %d labels", len(l))
	}
}
