package graph

import (
	"slices"
	"strconv"
	"strings"
	"testing"

	"mainline/api"
	"mainline/packages"
	"mainline/samples"
	"mainline/store"
	"mainline/tree"
)

// pack returns a package with these variants.
func pack(dir string, variants ...api.Variant) api.Package {
	return api.Package{Dir: dir, Platforms: []string{"any"}, Variants: variants}
}

// variant returns a variant for the platform any, with dependencies in the lines behind its own.
func variant(label string, line int, deps ...string) api.Variant {
	v := api.Variant{Label: label, Platform: "any", Kind: api.Lib, Line: line, Cost: 1}
	for i, text := range deps {
		v.Deps = append(v.Deps, api.Item{Text: text, Line: line + 1 + i})
	}
	return v
}

// visible returns an equal variant with these texts of Visible.
func visible(v api.Variant, texts ...string) api.Variant {
	v.Visible = texts
	return v
}

// forPlatform returns an equal variant for another platform.
func forPlatform(v api.Variant, platform string) api.Variant {
	v.Platform = platform
	return v
}

// becomes checks the Deps of the nodes of packages, and the problems, which are written as their paths, lines and kinds.
func becomes(t *testing.T, l []api.Package, deps string, problems ...string) {
	t.Helper()
	nodes, x := makes(t, l)
	if is, want := shownDeps(nodes), strings.Join(problems, "; "); is != deps || shownProblems(x) != want {
		t.Errorf("%+v: %s, problems %s; want %s, problems %s", l, is, shownProblems(x), deps, want)
	}
}

// built returns the packages of a tree of files, whose paths and texts alternate.
func built(t *testing.T, files ...string) []api.Package {
	t.Helper()
	s := store.New()
	var all []api.File
	for i := 0; i < len(files); i += 2 {
		id, _ := s.Blob(files[i+1])
		all = append(all, api.File{Path: files[i], Id: id})
	}
	root, e := tree.Build(s, all)
	l, problems := packages.Load(s, root)
	if e != api.OK || len(problems) > 0 {
		t.Fatalf("error %d, problems %v", e, problems)
	}
	return l
}

func TestP13_1OneNodeForEachVariant(t *testing.T) {
	full := api.Variant{Label: "//a:x", Platform: "linux", Kind: api.Test, Line: 7, Files: []api.File{{Path: "a/f", Id: 3}, {Path: "a/g", Id: 1}}, Outs: []string{"a/p", "a/o"}, Deps: []api.Item{{Text: ":y", Platform: "mac", Line: 4}, {Text: ":x", Glob: true, Platform: "linux", Line: 3}}, Visible: []string{"//b", "public"}, Cost: 9, Retry: 2}
	l := []api.Package{pack("b", variant("//b:z", 3), full), pack(""), pack("a", full, variant("//a:a", 2), full), pack("b", api.Variant{}), pack("", variant("//:t", 1))}
	nodes, _ := makes(t, l)
	if len(nodes) != 7 {
		t.Fatalf("%d nodes", len(nodes))
	}
	want := []api.Variant{l[0].Variants[0], full, full, l[2].Variants[1], full, {}, l[4].Variants[0]}
	for n, path := range []string{"b/BUILD", "b/BUILD", "a/BUILD", "a/BUILD", "a/BUILD", "b/BUILD", "BUILD"} {
		if !sameVariant(nodes[n].Variant, want[n]) || nodes[n].Path != path {
			t.Errorf("node %d: %+v; want %+v in %s", n, nodes[n], want[n], path)
		}
	}
}

func TestP13_1NoVariants(t *testing.T) {
	for _, l := range [][]api.Package{nil, {}, {{}}, {pack("a"), pack(""), {Dir: "b"}}} {
		if nodes, problems := makes(t, l); len(nodes) != 0 || len(problems) != 0 {
			t.Errorf("%v: %v, %v", l, nodes, problems)
		}
	}
}

func TestP13_1Paths(t *testing.T) {
	for dir, path := range map[string]string{"": "BUILD", "a": "a/BUILD", "a/b": "a/b/BUILD", "BUILD": "BUILD/BUILD", "/": "//BUILD", "a/": "a//BUILD", "\xff": "\xff/BUILD", " ": " /BUILD"} {
		nodes, problems := makes(t, []api.Package{pack(dir, variant("//x:y", 1, "none"))})
		if len(nodes) != 1 || nodes[0].Path != path || len(problems) != 1 || problems[0].Path != path {
			t.Errorf("%q: %v, %v", dir, nodes, problems)
		}
	}
}

// buildFileOf returns the path of the build file of a package.
func buildFileOf(dir string) string {
	if dir == "" {
		return "BUILD"
	}
	return dir + "/BUILD"
}

// example returns the build files of the chapter's example, with other texts for the attribute of b and the dependencies of y.
func example(visible, deps string) []string {
	return []string{
		"a/BUILD", "platforms linux, mac;\ntarget x {\n deps \":y\",\n \"//b\";\n}\n\n\ntarget y {\n" + deps + "}",
		"b/BUILD", "target b {" + visible + "}",
	}
}

func TestP13_2Example(t *testing.T) {
	l := built(t, example("visible \"//a\";", "")...)
	becomes(t, l, "[[2 4] [3 4] [] [] []]")
	var all []string
	nodes, _ := Make(l)
	for _, node := range nodes {
		all = append(all, node.Variant.Label+" "+node.Variant.Platform)
	}
	if !slices.Equal(all, []string{"//a:x linux", "//a:x mac", "//a:y linux", "//a:y mac", "//b:b any"}) {
		t.Errorf("%q", all)
	}
	becomes(t, built(t, example("", "")...), "[[2] [3] [] [] []]", "a/BUILD 4 51")
	becomes(t, built(t, example("visible \"//a\";", "deps \":x\";")...), "[[2 4] [3 4] [0] [1] []]", "a/BUILD 2 53")
}

// TestP13_2GeneratedSources has a target whose source is written by another one.
func TestP13_2GeneratedSources(t *testing.T) {
	becomes(t, built(t, "BUILD", "target t { srcs \"o\"; } target g { kind gen; out \"o\"; } target u { kind gen; out \"p\"; srcs \"p\", \"o\"; }"), "[[1] [] [1 2]]", "BUILD 1 53")
}

// labels are labels of variants, in packages of any directories.
var labels = []string{"", ":", ":x", "x", "//", "//:", "//:x", "//a:x", "//a:a", "//a:", "//a", "//a/b:b", "//a/b:a/b", "//a/b:x", "//a/b/:", "///:", "///a:a", "//a//b:b", "//:x:x", "//a:x:y", "//a::x", "//a:b/c", "//a/b:c/d", "/a:a", "a:x", "//b:b"}

// denotes checks which of the labels a text denotes in a package.
func denotes(t *testing.T, dir, text, label string) {
	t.Helper()
	l := []api.Package{pack(dir, variant("asks", 6, text)), pack("other")}
	want, problems := "[[]", []string{buildFileOf(dir) + " 7 50"}
	for n, each := range labels {
		l[1].Variants = append(l[1].Variants, visible(variant(each, 1), "public"))
		if each == label && label != "none" {
			want, problems = "[["+strconv.Itoa(n+1)+"]", nil
		}
	}
	becomes(t, l, want+strings.Repeat(" []", len(labels))+"]", problems...)
}

func TestP13_2TextsOfTheSamePackage(t *testing.T) {
	denotes(t, "", ":x", "//:x")
	denotes(t, "a", ":x", "//a:x")
	denotes(t, "a/b", ":x", "//a/b:x")
	denotes(t, "a", ":", "//a:")
	denotes(t, "", ":", "//:")
	denotes(t, "", ":x:x", "//:x:x")
	denotes(t, "a", "::x", "//a::x")
	denotes(t, "a", ":b/c", "//a:b/c")
	denotes(t, "b", ":x", "none")
	denotes(t, "a", ":y", "none")
	denotes(t, "a:x", ":y", "//a:x:y")
}

func TestP13_2TextsOfAllPackages(t *testing.T) {
	for _, dir := range []string{"", "a", "a/b"} {
		denotes(t, dir, "//a:x", "//a:x")
		denotes(t, dir, "//:x", "//:x")
		denotes(t, dir, "//a/b:x", "//a/b:x")
		denotes(t, dir, "//a:", "//a:")
		denotes(t, dir, "//:", "//:")
		denotes(t, dir, "//a:x:y", "//a:x:y")
		denotes(t, dir, "//a:b/c", "//a:b/c")
		denotes(t, dir, "//c:x", "none")
	}
}

func TestP13_2TextsWithoutAName(t *testing.T) {
	for _, dir := range []string{"", "a", "a/b"} {
		denotes(t, dir, "//a", "//a:a")
		denotes(t, dir, "//b", "//b:b")
		denotes(t, dir, "//a/b", "//a/b:b")
		denotes(t, dir, "//a/b/", "//a/b/:")
		denotes(t, dir, "//a//b", "//a//b:b")
		denotes(t, dir, "//", "//:")
		denotes(t, dir, "///", "///:")
		denotes(t, dir, "///a", "///a:a")
		denotes(t, dir, "//x", "none")
		denotes(t, dir, "//a/x", "none")
	}
}

func TestP13_2TextsThatDenoteNothing(t *testing.T) {
	for _, dir := range []string{"", "a", "a/b"} {
		for _, text := range []string{"", "x", "a", "/", "/a", "/a:a", "a:x", "a:", "x:", "a//b", "/:x", " ://a", " //a", "\x00//a", "...", "public", "asks", "/\xff"} {
			denotes(t, dir, text, "none")
		}
	}
}

// TestP13_2ShortTexts tries all short texts where each label that can be denoted is there, and none else.
func TestP13_2ShortTexts(t *testing.T) {
	for _, dir := range []string{"", "a", "a/b"} {
		for _, text := range samples.Strings("/:ab", 5) {
			label, ok := labelByWords(text, dir)
			l := []api.Package{pack(dir, variant("asks", 6, text), variant("", 1), variant(text+":", 1), variant("//"+text, 1), variant(":"+text, 1))}
			if text != label {
				l[0].Variants = append(l[0].Variants, variant(text, 1))
			}
			if ok {
				l[0].Variants = append(l[0].Variants, variant(label, 1))
			}
			makes(t, l)
		}
	}
}

// seen checks whether a target in a package "own" with these texts of Visible is visible in packages.
func seen(t *testing.T, texts []string, in map[string]bool) {
	t.Helper()
	for dir, isVisible := range in {
		l := []api.Package{pack("own", visible(variant("//own:x", 1), texts...)), pack(dir, variant("//q:asks", 6, "//own:x"))}
		if isVisible {
			becomes(t, l, "[[] [0]]")
		} else {
			becomes(t, l, "[[] []]", buildFileOf(dir)+" 7 51")
		}
	}
}

func TestP13_2VisibleInOnePackage(t *testing.T) {
	seen(t, nil, map[string]bool{"own": true, "": false, "a": false, "own/a": false, "ow": false, "own2": false, "own/": false, "/own": false})
	seen(t, []string{"//a"}, map[string]bool{"own": true, "a": true, "": false, "a/b": false, "aa": false, "b": false, "a/": false, "/a": false, "//a": false, "b/a": false})
	seen(t, []string{"//"}, map[string]bool{"own": true, "": true, "a": false, "/": false})
	seen(t, []string{"//a/b"}, map[string]bool{"a/b": true, "a": false, "a/b/c": false, "": false})
	seen(t, []string{"//a", "//b"}, map[string]bool{"own": true, "a": true, "b": true, "": false, "c": false})
	seen(t, []string{"//a:x", "a", "/a", ":a", "", "//a/"}, map[string]bool{"own": true, "a": false, "": false, "a:x": true, "a/": true})
	seen(t, []string{"///a"}, map[string]bool{"/a": true, "a": false})
}

func TestP13_2VisibleInAllPackages(t *testing.T) {
	for _, text := range []string{"public", "//..."} {
		for _, texts := range [][]string{{text}, {"//q", text}, {text, "//q"}, {"", text, ""}} {
			seen(t, texts, map[string]bool{"own": true, "": true, "a": true, "a/b": true, "...": true, "/": true, "public": true, "\xff": true})
		}
	}
	for _, text := range []string{"Public", "public ", "//public", "private", "...", "/...", "//....", "//..", "pub"} {
		seen(t, []string{text}, map[string]bool{"own": true, "": false, "a": false, "a/b": false})
	}
}

func TestP13_2VisibleBelowDirectories(t *testing.T) {
	seen(t, []string{"//a/..."}, map[string]bool{"own": true, "a": true, "a/b": true, "a/b/c": true, "a/": true, "a//": true, "": false, "aa": false, "ab/a": false, "b": false, "b/a": false, "/a": false, "A": false, "a-": false, "a/...": true})
	seen(t, []string{"//a/b/..."}, map[string]bool{"a/b": true, "a/b/c": true, "a/b/c/d": true, "a": false, "": false, "a/bc": false, "a/c": false, "b": false})
	seen(t, []string{"//a/b/...", "//c"}, map[string]bool{"a/b/c": true, "c": true, "c/d": false, "a": false})
	seen(t, []string{"//own/..."}, map[string]bool{"own": true, "own/a": true, "ownx": false, "": false})
	seen(t, []string{"///..."}, map[string]bool{"": true, "/": true, "/a": true, "a": false, "a/b": false})
	seen(t, []string{"//.../..."}, map[string]bool{"...": true, ".../a": true, "": false, "a": false})
	seen(t, []string{"//a/.../..."}, map[string]bool{"a/...": true, "a/.../b": true, "a": false, "a/b": false})
	seen(t, []string{"//a/....", "//b/..", "//c...", "/d/...", "e/...", "//f/.../"}, map[string]bool{"a": false, "b": false, "c": false, "d": false, "e": false, "f": false, "a/....": true, "c...": true, "f/x": false})
}

// TestP13_2ShortVisibilities tries all short texts of Visible for all short directories.
func TestP13_2ShortVisibilities(t *testing.T) {
	asking := samples.Strings("/a.", 4)
	for _, text := range samples.Strings("/a.", 6) {
		l := []api.Package{pack("own", visible(variant("//own:x", 1), text))}
		for _, dir := range asking {
			l = append(l, pack(dir, variant("asks", 1, "//own:x")))
		}
		nodes, _ := Make(l)
		for n, dir := range asking {
			if is, want := len(nodes[n+1].Deps) == 1, visibleByWords(place{"own", l[0].Variants[0]}, dir); is != want {
				t.Fatalf("%q in %q: %t; want %t", text, dir, is, want)
			}
		}
	}
}

// TestP13_2TheFirstVariantIsVisible has variants with one label that are visible in other packages than the first one.
func TestP13_2TheFirstVariantIsVisible(t *testing.T) {
	asks := pack("a", variant("//a:asks", 6, "//x"))
	mac := forPlatform(variant("//x:x", 1), "mac")
	becomes(t, []api.Package{asks, pack("x", mac, visible(variant("//x:x", 1), "public"))}, "[[] [] []]", "a/BUILD 7 51")
	becomes(t, []api.Package{asks, pack("x", visible(mac, "public"), variant("//x:x", 1))}, "[[2] [] []]")
	becomes(t, []api.Package{pack("x", visible(mac, "//a"), variant("//x:x", 1)), asks}, "[[] [] [1]]")
	// Packages are the same if their directories are: that of the first variant counts.
	becomes(t, []api.Package{asks, pack("a", mac), pack("x", variant("//x:x", 1))}, "[[2] [] []]")
	becomes(t, []api.Package{asks, pack("x", mac), pack("a", variant("//x:x", 1))}, "[[] [] []]", "a/BUILD 7 51")
	becomes(t, []api.Package{pack("a"), pack("x", mac), asks, pack("a", variant("//x:x", 1))}, "[[] [] []]", "a/BUILD 7 51")
}

func TestP13_2Platforms(t *testing.T) {
	public := visible(variant("//x:x", 1), "public")
	mac, linux := forPlatform(public, "mac"), forPlatform(public, "linux")
	none, odd := forPlatform(public, ""), forPlatform(public, "Any")
	for _, c := range []struct {
		platform string
		variants []api.Variant
		deps     string
	}{
		{"linux", []api.Variant{mac, linux}, "[1]"},
		{"mac", []api.Variant{mac, linux}, "[0]"},
		{"linux", []api.Variant{public, linux}, "[1]"}, // rather the same one than any
		{"linux", []api.Variant{linux, public}, "[0]"},
		{"linux", []api.Variant{mac, public}, "[1]"},
		{"linux", []api.Variant{public}, "[0]"},
		{"any", []api.Variant{linux, public}, "[1]"},
		{"linux", []api.Variant{mac, linux, linux}, "[1]"}, // the first one
		{"linux", []api.Variant{mac, public, public}, "[1]"},
		{"any", []api.Variant{public, public}, "[0]"},
		{"", []api.Variant{mac, none}, "[1]"},
		{"", []api.Variant{mac, public}, "[1]"},
		{"linux", []api.Variant{mac}, ""},
		{"any", []api.Variant{mac, linux}, ""}, // any is a platform, not all of them
		{"linux", []api.Variant{mac, none, odd}, ""},
		{"", []api.Variant{mac}, ""},
		{"lin", []api.Variant{linux}, ""},
	} {
		asks := forPlatform(variant("//a:asks", 6, "//x"), c.platform)
		want, problems := strings.Repeat("[] ", len(c.variants)), []string{"a/BUILD 7 52"}
		if c.deps != "" {
			problems = nil
		}
		becomes(t, []api.Package{pack("x", c.variants...), pack("a", asks)}, "["+want+"["+strings.Trim(c.deps, "[]")+"]]", problems...)
	}
}

// TestP13_2TheFirstProblem has dependencies to which several lines apply.
func TestP13_2TheFirstProblem(t *testing.T) {
	mac := forPlatform(variant("//x:x", 1), "mac")
	becomes(t, []api.Package{pack("a", variant("//a:asks", 6, "//x")), pack("x", mac)}, "[[] []]", "a/BUILD 7 51")
	becomes(t, []api.Package{pack("a", variant("//a:asks", 6, "//x")), pack("x", visible(mac, "public"))}, "[[] []]", "a/BUILD 7 52")
	becomes(t, []api.Package{pack("x", variant("//x:asks", 6, ":x"), mac)}, "[[] []]", "x/BUILD 7 52")
	becomes(t, []api.Package{pack("a", variant("//a:asks", 6, "x")), pack("x", mac)}, "[[] []]", "a/BUILD 7 50")
}

func TestP13_2ItemsOfOtherPlatforms(t *testing.T) {
	asks := func(platform string) api.Variant {
		return api.Variant{Label: "//:asks", Platform: platform, Line: 1, Deps: []api.Item{
			{Text: ":x", Line: 2, Platform: "mac"}, {Text: ":none", Line: 3, Platform: "mac"}, {Text: ":y", Line: 4}, {Text: "no", Line: 5, Platform: "any"},
			{Text: ":x", Line: 6, Platform: "linux"}, {Text: ":other", Line: 7, Platform: "linux"},
		}}
	}
	for platform, c := range map[string][]string{
		"linux": {"[[1 2] [] []]", "BUILD 7 50"},
		"mac":   {"[[1 2] [] []]", "BUILD 3 50"},
		"any":   {"[[2] [] []]", "BUILD 5 50"},
		"":      {"[[2] [] []]"},
		"Mac":   {"[[2] [] []]"},
	} {
		becomes(t, []api.Package{pack("", asks(platform), variant("//:x", 8), variant("//:y", 9))}, c[0], c[1:]...)
	}
}

// TestP13_2GlobsAreTexts has an item that says that it is a pattern, which has no meaning for dependencies.
func TestP13_2GlobsAreTexts(t *testing.T) {
	asks := variant("//:asks", 1)
	asks.Deps = []api.Item{{Text: ":x", Glob: true, Line: 2}, {Text: ":*", Glob: true, Line: 3}}
	becomes(t, []api.Package{pack("", asks, variant("//:x", 4))}, "[[1] []]", "BUILD 3 50")
}

func TestP13_2DepsAreInOrder(t *testing.T) {
	l := []api.Package{pack("", variant("//:a", 1), variant("//:b", 2), variant("//:t", 3, ":d", ":a", "//:d", ":c", ":none", ":a", "//:a", ":c"), variant("//:c", 9), variant("//:d", 10, ":b", "//:a", ":b"))}
	becomes(t, l, "[[] [] [0 3 4] [] [0 1]]", "BUILD 8 50")
	// Two labels, one node: the same one.
	becomes(t, []api.Package{pack("", variant("//:t", 1, "//a", "//a:a", "//b")), pack("b", visible(variant("//b:b", 1), "public")), pack("a", visible(variant("//a:a", 1), "public"))}, "[[1 2] [] []]")
}

func TestP13_3Cycles(t *testing.T) {
	for _, c := range []struct {
		deps     string // of nodes a, b, c, and so on, whose lines are 1, 2, 3, and so on
		problems string
	}{
		{"", ""},
		{"b c d -", ""},
		{"bc d d -", ""},
		{"a", "BUILD 1 53"},
		{"- b -", "BUILD 2 53"},
		{"b a", "BUILD 1 53"},
		{"ab ab", "BUILD 1 53"},
		{"b c a", "BUILD 1 53"},
		{"c a b", "BUILD 1 53"},
		{"d c d b", "BUILD 2 53"}, // reached from a first, and at d
		{"b c b", "BUILD 2 53"},
		{"b a d c", "BUILD 1 53; BUILD 3 53"},
		{"bc ad d c", "BUILD 1 53; BUILD 3 53"},
		{"c d a b", "BUILD 1 53; BUILD 2 53"},
		{"e d c b a", "BUILD 1 53; BUILD 2 53; BUILD 3 53"}, // c depends on itself
		{"b c ad -", "BUILD 1 53"},
		{"b ca db c", "BUILD 1 53"}, // cycles that meet are one set
		{"bd c a e d", "BUILD 1 53; BUILD 4 53"},
		{"d - - e c", ""},
		{"f a b c d e", "BUILD 1 53"},
		{"f fe fe fe fd e", "BUILD 4 53"},
	} {
		p := pack("")
		for n, texts := range strings.Fields(c.deps) {
			v := variant("//:"+string(rune('a'+n)), n+1)
			for _, dep := range strings.Trim(texts, "-") {
				v.Deps = append(v.Deps, api.Item{Text: ":" + string(dep), Line: 100})
			}
			p.Variants = append(p.Variants, v)
		}
		nodes, problems := makes(t, []api.Package{p})
		if is := shownProblems(problems); is != c.problems {
			t.Errorf("%s: %s; want %s", c.deps, is, c.problems)
		}
		for n, texts := range strings.Fields(c.deps) {
			if len(nodes[n].Deps) != len(strings.Trim(texts, "-")) {
				t.Errorf("%s: node %d has %v", c.deps, n, nodes[n].Deps)
			}
		}
	}
}

// TestP13_3PlacesOfCycles has cycles over several packages.
func TestP13_3PlacesOfCycles(t *testing.T) {
	a := pack("a", visible(variant("//a:x", 5, "//b:x"), "public"), visible(variant("//a:y", 3, "//b:y"), "public"), variant("//a:z", 2, ":z"))
	b := pack("b", visible(variant("//b:x", 4, "//a:y"), "public"), visible(variant("//b:y", 1, "//a:x"), "public"))
	becomes(t, []api.Package{a, b}, "[[3] [4] [2] [1] [0]]", "a/BUILD 5 53", "a/BUILD 2 53")
	becomes(t, []api.Package{b, a}, "[[3] [2] [0] [1] [4]]", "b/BUILD 4 53", "a/BUILD 2 53")
}

// TestP13_3CyclesThroughPlatforms has targets that depend on each other for one platform only.
func TestP13_3CyclesThroughPlatforms(t *testing.T) {
	l := built(t, "BUILD", "platforms linux, mac;\ntarget x { deps\nmac \":y\"; }\ntarget y { deps \":x\"; }")
	becomes(t, l, "[[] [3] [0] [1]]", "BUILD 2 53")
}

// graphs calls do for all graphs of so many nodes, whose Deps are in increasing order.
func graphs(many int, do func(deps [][]int)) {
	for mask := range 1 << (many * many) {
		deps := make([][]int, many)
		for edge := range many * many {
			if mask>>edge&1 == 1 {
				deps[edge/many] = append(deps[edge/many], edge%many)
			}
		}
		do(deps)
	}
}

// asVariants returns a package with variants that depend on each other, each in a line of its own.
func asVariants(deps [][]int) []api.Package {
	p := pack("")
	for n, list := range deps {
		v := variant("//:t"+strconv.Itoa(n), n+1)
		for _, dep := range list {
			v.Deps = append(v.Deps, api.Item{Text: ":t" + strconv.Itoa(dep), Line: 100})
		}
		p.Variants = append(p.Variants, v)
	}
	return []api.Package{p}
}

func TestP13_3AllSmallGraphs(t *testing.T) {
	for many := range 5 {
		graphs(many, func(deps [][]int) { makes(t, asVariants(deps)) })
	}
}

func TestP13_4OrderOfProblems(t *testing.T) {
	l := []api.Package{
		pack("b", variant("//b:x", 9, ":x", "none", ":no", "//c:y"), variant("//b:y", 1, "//c:x", ":y")),
		pack("a", variant("//a:x", 3, "", "//b:x"), variant("//a:y", 6, ":y")),
		pack("c", forPlatform(visible(variant("//c:x", 1, ":y"), "public"), "mac"), variant("//c:y", 1)),
	}
	becomes(t, l, "[[0] [1] [] [3] [5] []]",
		"b/BUILD 11 50", "b/BUILD 12 50", "b/BUILD 13 51", "b/BUILD 2 52", "a/BUILD 4 50", "a/BUILD 5 51", "b/BUILD 9 53", "b/BUILD 1 53", "a/BUILD 6 53")
}

func TestP13_4ProblemsThatOccurTwice(t *testing.T) {
	x := variant("//:x", 2)
	x.Deps = []api.Item{{Text: ":none", Line: 3}, {Text: "no", Line: 3}, {Text: ":none", Line: 4}, {Text: ":x", Line: 3}, {Text: ":none", Line: 3}}
	mac := forPlatform(x, "mac")
	becomes(t, []api.Package{pack("", x, mac)}, "[[0] [1]]", "BUILD 3 50", "BUILD 4 50", "BUILD 2 53")
	// Another path, line or kind is another problem.
	becomes(t, []api.Package{pack("", x), pack("a", variant("//a:x", 2, ":none"), variant("//a:y", 2, "//:x"), variant("//a:z", 1, ":none", ":none"))}, "[[0] [] [] []]",
		"BUILD 3 50", "BUILD 4 50", "a/BUILD 3 50", "a/BUILD 3 51", "a/BUILD 2 50", "BUILD 2 53")
	// Cycles with equal problems.
	becomes(t, []api.Package{pack("", variant("//:a", 1, ":a"), variant("//:b", 2, ":b"), variant("//:c", 1, ":c"), variant("//:d", 2, ":e"), variant("//:e", 3, ":d"))}, "[[0] [1] [2] [4] [3]]", "BUILD 1 53", "BUILD 2 53")
	// Two packages with one directory have one build file.
	becomes(t, []api.Package{pack("a", variant("//a:x", 1, "no")), pack("b", variant("//b:x", 1, "no")), pack("a", variant("//a:y", 1, "none"))}, "[[] [] []]", "a/BUILD 2 50", "b/BUILD 2 50")
}
