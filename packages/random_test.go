package packages

import (
	"slices"
	"strconv"
	"strings"
	"testing"

	"mainline/api"
	"mainline/paths"
	"mainline/samples"
	"mainline/store"
	"mainline/tree"
)

func oneOf(below func(int) int, all ...string) string {
	return all[below(len(all))]
}

// randomPath returns a path of few components, of which there are few.
func randomPath(below func(int) int) string {
	path := oneOf(below, "a", "b.c", "d", "BUILD", "OWNERS", "a-")
	for range below(3) {
		path = oneOf(below, "a", "d", "e", "a-") + "/" + path
	}
	return path
}

// randomText returns the text of an item of Srcs or Outs.
func randomText(below func(int) int) string {
	if below(12) == 0 {
		return oneOf(below, "", "/", "..", "a/", "a**", "*", "x y")
	}
	return randomPath(below)
}

func randomGlob(below func(int) int) string {
	return oneOf(below, "*", "**", "*.c", "d/*", "**/a", "a/**", "?", "e/**/*", "**/OWNERS", "b.?", "", "..", "a**", "BUILD", "*/*", randomText(below))
}

// randomList returns from one to three items with commas between them, some of them in a line of their own.
func randomList(below func(int) int, item func(func(int) int) string) string {
	list := item(below)
	for range below(3) {
		list += oneOf(below, ", ", ",\n") + item(below)
	}
	return list
}

func quoted(text string) string {
	return "\"" + text + "\""
}

func randomSource(below func(int) int) string {
	if below(3) == 0 {
		return "glob(" + quoted(randomGlob(below)) + ")"
	}
	return quoted(randomText(below))
}

func randomAttribute(below func(int) int) string {
	platform := oneOf(below, "", "", "", "linux ", "mac ", "any ", "arm ")
	switch below(8) {
	case 0, 1, 2:
		return "srcs " + platform + randomList(below, randomSource)
	case 3, 4:
		return "out " + randomList(below, func(below func(int) int) string { return quoted(randomText(below)) })
	case 5, 6:
		return "deps " + platform + randomList(below, func(below func(int) int) string { return quoted(oneOf(below, ":t0", "//d:t1", "x", "")) })
	}
	return "visible " + quoted(oneOf(below, "public", "//d", "")) + ", " + quoted("//...")
}

// randomBuildFile returns a source, which has an error now and then.
func randomBuildFile(below func(int) int) string {
	source := oneOf(below, "", "", "platforms linux;\n", "platforms mac, linux;\n", "platforms any, mac; ")
	for n := range below(5) {
		kind := oneOf(below, "", "kind gen; ", "kind gen; ", "kind gen; cost 2; ", "kind test; retry 3; ")
		source += "target t" + strconv.Itoa(n) + " { " + kind
		for range below(5) {
			source += randomAttribute(below) + ";" + oneOf(below, " ", "\n")
		}
		source += "}" + oneOf(below, " ", "\n", "\n\n")
	}
	if below(12) == 0 {
		source += oneOf(below, "target", "\n@", "target t0 {}", "target u { cost 0; }")
	}
	return source
}

// randomTree returns a tree of files whose paths do not stand in the way of each other.
func randomTree(t *testing.T, s *store.Store, below func(int) int) int {
	t.Helper()
	var files []api.File
	for range below(25) {
		path, text := randomPath(below), oneOf(below, "", "x", "y")
		if paths.Base(path) == "BUILD" {
			text = randomBuildFile(below)
		}
		if slices.ContainsFunc(files, func(f api.File) bool { return paths.Under(path, f.Path) || paths.Under(f.Path, path) }) {
			continue
		}
		id, e := s.Blob(text)
		if e != api.OK {
			t.Fatalf("error %d", e)
		}
		files = append(files, api.File{Path: path, Id: id})
	}
	root, e := tree.Build(s, files)
	if e != api.OK {
		t.Fatalf("error %d", e)
	}
	return root
}

// TestP12_4RandomTreesFollowTheWords checks all promises on many trees, and that each problem and each sort of result occurs in them.
func TestP12_4RandomTreesFollowTheWords(t *testing.T) {
	problems := map[api.Errno]int{}
	sorts := map[string]int{}
	for seed := range uint32(4000) {
		below := samples.Below(seed)
		s := store.New()
		p, x := follows(t, s, randomTree(t, s, below))
		for _, problem := range x {
			problems[problem.Kind]++
		}
		for _, one := range p {
			sorts["package"] += 1
			for _, v := range one.Variants {
				sorts["variant"]++
				sorts["file"] += len(v.Files)
				sorts["out"] += len(v.Outs)
				for _, dep := range v.Deps {
					if strings.HasPrefix(dep.Text, ":") && dep.Text != ":t0" {
						sorts["generated"]++
					}
				}
			}
		}
	}
	for _, e := range []api.Errno{api.ErrSyntax, api.ErrNumber, api.ErrTwice, api.ErrPath, api.ErrKind, api.ErrExists, api.ErrSource, api.ErrPlatform} {
		if problems[e] < 100 {
			t.Errorf("error %d occurs %d times", e, problems[e])
		}
	}
	for _, sort := range []string{"package", "variant", "file", "out", "generated"} {
		if sorts[sort] < 100 {
			t.Errorf("%s occurs %d times", sort, sorts[sort])
		}
	}
}

// TestP12_6RandomFilesWithoutEffect adds files that belong to no package.
func TestP12_6RandomFilesWithoutEffect(t *testing.T) {
	for seed := range uint32(500) {
		below := samples.Below(seed)
		s := store.New()
		low := randomTree(t, s, below)
		if _, isEmpty := s.Entries(low); !isEmpty || len(filesByWords(s, low)) == 0 {
			continue
		}
		x, _ := s.Blob("x")
		root, e := s.Tree([]api.Entry{{Name: "d", Dir: true, Id: low}})
		more, moreE := s.Tree([]api.Entry{{Name: "b", Id: x}, {Name: "d", Dir: true, Id: low}, {Name: "d-", Id: x}, {Name: "z", Id: x}})
		if e != api.OK || moreE != api.OK {
			t.Fatalf("errors %d, %d", e, moreE)
		}
		p, problems := follows(t, s, root)
		q, again := follows(t, s, more)
		if !slices.EqualFunc(p, q, samePackage) || !slices.Equal(problems, again) {
			t.Fatalf("%v, %v; want %v, %v", q, again, p, problems)
		}
	}
}

// TestR3ResultsAreNewMemory overwrites the lists of one variant after the other: neither the others nor later results change.
func TestR3ResultsAreNewMemory(t *testing.T) {
	source := "platforms a, b; target g { kind gen; out \"o\", \"p\"; } target t { srcs \"o\", glob(\"*\"), \"x\"; deps \":g\", \":u\"; visible \"public\", \"//d\"; } target u { srcs glob(\"*\"); deps a \":g\"; }"
	s, root := inRoot(t, source, []string{"x", "y", "d/BUILD"})
	contents := filesByWords(s, root)
	want, _ := Load(s, root)
	p, _ := Load(s, root)
	variants := p[0].Variants
	for i := range variants {
		v := &variants[i]
		for _, list := range [][]string{v.Outs[:cap(v.Outs)], v.Visible[:cap(v.Visible)]} {
			for k := range list {
				list[k] = "other"
			}
		}
		files, deps := v.Files[:cap(v.Files)], v.Deps[:cap(v.Deps)]
		for k := range files {
			files[k] = api.File{Path: "other"}
		}
		for k := range deps {
			deps[k] = api.Item{Text: "other"}
		}
		for k := i + 1; k < len(variants); k++ {
			if !sameVariant(variants[k], want[0].Variants[k]) {
				t.Fatalf("after variant %d: %s; want %s", i, shownVariant(variants[k], contents), shownVariant(want[0].Variants[k], contents))
			}
		}
	}
	platforms := p[0].Platforms[:cap(p[0].Platforms)]
	for k := range platforms {
		platforms[k] = "other"
	}
	if p[1].Platforms[0] != "any" || variants[0].Platform != "a" {
		t.Errorf("%q, %q", p[1].Platforms, variants[0].Platform)
	}
	if again, _ := Load(s, root); !slices.EqualFunc(again, want, samePackage) {
		t.Errorf("%v; want %v", again, want)
	}
	dirs := Dirs(s, root)
	dirs[0] = "other"
	if again := Dirs(s, root); !slices.Equal(again, []string{"", "d"}) {
		t.Errorf("%q", again)
	}
}

func TestP1CallsEndForAllArguments(t *testing.T) {
	for seed := range uint32(2000) {
		s := store.New()
		root := randomTree(t, s, samples.Below(seed))
		for _, id := range append(noTrees(s.Many()), root, root-1, root-2) {
			for _, of := range []*store.Store{s, nil} {
				Dirs(of, id)
				Load(of, id)
			}
		}
	}
}

// TestP1DeepTrees has packages below many directories, in all of which there are others.
func TestP1DeepTrees(t *testing.T) {
	s := store.New()
	build, _ := s.Blob("target t { srcs glob(\"**\"), \"d/BUILD\"; }")
	root := rootOf(t, s, "x", "", "BUILD", "target t { srcs \"x\"; }")
	const levels = 300
	for range levels {
		next, e := s.Tree([]api.Entry{{Name: "BUILD", Id: build}, {Name: "d", Dir: true, Id: root}, {Name: "x", Id: build}})
		if e != api.OK {
			t.Fatalf("error %d", e)
		}
		root = next
	}
	p, x := Load(s, root)
	if len(p) != levels+1 || len(x) != levels || len(Dirs(s, root)) != levels+1 {
		t.Fatalf("%d packages, %d problems", len(p), len(x))
	}
	for i, one := range p {
		dir := strings.TrimSuffix(strings.Repeat("d/", i), "/")
		if one.Dir != dir || len(one.Variants) != 1 || len(one.Variants[0].Files) != 1 || one.Variants[0].Files[0].Path != joined(dir, "x") {
			t.Fatalf("package %d: %v", i, one)
		}
	}
}

// TestP1ManyGlobs has a target whose Globs match all files, again and again.
func TestP1ManyGlobs(t *testing.T) {
	s := store.New()
	files := []string{"BUILD", "target t { srcs glob(\"**\")" + strings.Repeat(",glob(\"**\")", 5000) + "; }"}
	for n := range 2000 {
		files = append(files, "f"+strconv.Itoa(n), "")
	}
	p, x := Load(s, rootOf(t, s, files...))
	if len(p) != 1 || len(p[0].Variants) != 1 || len(p[0].Variants[0].Files) != 2000 || len(x) != 0 {
		t.Fatalf("%d packages, %d problems", len(p), len(x))
	}
}

// TestP1ManyFiles would take minutes if each item were compared with each file.
func TestP1ManyFiles(t *testing.T) {
	s := store.New()
	build := "target g { kind gen; out \"o\""
	for n := range 2000 {
		build += ",\n\"f" + strconv.Itoa(n) + ".x\""
	}
	build += "; }"
	for n := range 800 {
		build += "target t" + strconv.Itoa(n) + " { srcs glob(\"**/*.y\"), \"f" + strconv.Itoa(n) + "\", \"o\"; }"
	}
	files := []string{"d/BUILD", build}
	for n := range 90000 {
		files = append(files, "d/f"+strconv.Itoa(n), "")
	}
	for n := range 3000 {
		files = append(files, "e/f"+strconv.Itoa(n)+"/BUILD", "target t { srcs glob(\"**\"); }")
	}
	p, x := Load(s, rootOf(t, s, files...))
	if len(p) != 3001 || len(x) != 0 || len(p[0].Variants) != 801 || len(p[0].Variants[0].Outs) != 2001 {
		t.Fatalf("%d packages, %d problems", len(p), len(x))
	}
	for n, v := range p[0].Variants[1:] {
		if len(v.Files) != 1 || v.Files[0].Path != "d/f"+strconv.Itoa(n) || len(v.Deps) != 1 || v.Deps[0].Text != ":g" {
			t.Fatalf("variant %d: %v", n, v)
		}
	}
}
