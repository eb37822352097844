package packages

import (
	"slices"
	"strconv"
	"strings"
	"testing"

	"mainline/api"
	"mainline/store"
	"mainline/tree"
)

// dirsAre checks the package directories of a tree of files with these paths, whose texts are no sources.
func dirsAre(t *testing.T, files, want []string) {
	t.Helper()
	s := store.New()
	var written []string
	for _, path := range files {
		written = append(written, path, "not a source: "+path)
	}
	if dirs := Dirs(s, rootOf(t, s, written...)); !slices.Equal(dirs, want) {
		t.Errorf("Dirs of %q: %q; want %q", files, dirs, want)
	}
}

func TestP12_1Dirs(t *testing.T) {
	for _, c := range []struct{ files, want []string }{
		{nil, nil},
		{[]string{"a", "b/c"}, nil},
		{[]string{"BUILD"}, []string{""}},
		{[]string{"BUILD", "a", "b/c"}, []string{""}},
		{[]string{"a/BUILD"}, []string{"a"}},
		{[]string{"a/b/c/BUILD", "x"}, []string{"a/b/c"}},
		{[]string{"a/b/BUILD", "a/x", "b/BUILD", "BUILD", "c/x"}, []string{"", "a/b", "b"}},
	} {
		dirsAre(t, c.files, c.want)
	}
}

func TestP12_1OrderOfDirs(t *testing.T) {
	for _, c := range []struct{ files, want []string }{
		// Other orders of the files, and of the bytes.
		{[]string{"BUILD", "A/BUILD"}, []string{"", "A"}},
		{[]string{"d/BUILD", "d/A/BUILD"}, []string{"d", "d/A"}},
		{[]string{"A/A/A/BUILD", "A/A/BUILD", "A/BUILD", "BUILD"}, []string{"", "A", "A/A", "A/A/A"}},
		{[]string{"A/BUILD", "B/A/BUILD", "B/BUILD", "C/BUILD"}, []string{"A", "B", "B/A", "C"}},
		{[]string{"a-/BUILD", "a.b/BUILD", "a/BUILD", "a/b/BUILD", "a0/BUILD", "a-/a/BUILD"}, []string{"a", "a/b", "a-", "a-/a", "a.b", "a0"}},
		{[]string{"-/BUILD", "0/BUILD", "BUILD", "Z/BUILD", "_/BUILD", "z/BUILD"}, []string{"", "-", "0", "Z", "_", "z"}},
		{[]string{"10/BUILD", "2/BUILD", "9/BUILD"}, []string{"10", "2", "9"}},
	} {
		dirsAre(t, c.files, c.want)
	}
}

func TestP12_1OtherNames(t *testing.T) {
	for _, c := range []struct{ files, want []string }{
		{[]string{"build", "Build", "BUILD.go", "xBUILD", "BUILD-", "BUIL", "a/BUILDS", "OWNERS"}, nil},
		{[]string{"BUILD/x", "a/BUILD/y"}, nil}, // directories
		{[]string{"BUILD/BUILD", "BUILD/x"}, []string{"BUILD"}},
		{[]string{"BUILD/a/BUILD", "BUILD/BUILD/BUILD"}, []string{"BUILD/BUILD", "BUILD/a"}},
	} {
		dirsAre(t, c.files, c.want)
	}
}

func TestP12_1WithoutATree(t *testing.T) {
	s := store.New()
	root := rootOf(t, s, "BUILD", "target t {}", "d/BUILD", "platforms;")
	blob, _ := s.Blob("target t {}")
	for _, of := range []*store.Store{s, nil, {}, store.New()} {
		for _, none := range append(noTrees(s.Many()), blob) {
			p, x := Load(of, none)
			if dirs := Dirs(of, none); len(dirs) != 0 || len(p) != 0 || len(x) != 0 {
				t.Errorf("root %d: %q, %v, %v", none, dirs, p, x)
			}
		}
	}
	p, x := Load(nil, root)
	if dirs := Dirs(nil, root); len(dirs) != 0 || len(p) != 0 || len(x) != 0 {
		t.Errorf("a nil store: %q, %v, %v", dirs, p, x)
	}
	empty := rootOf(t, s)
	p, x = Load(s, empty)
	if dirs := Dirs(s, empty); len(dirs) != 0 || len(p) != 0 || len(x) != 0 {
		t.Errorf("the empty tree: %q, %v, %v", dirs, p, x)
	}
}

func TestP12_1TreesBelowOthers(t *testing.T) {
	s := store.New()
	root := rootOf(t, s, "BUILD", "target t { srcs \"a\"; }", "d/BUILD", "target t { srcs \"b\"; }", "d/b", "", "a", "")
	d, _ := tree.Get(s, root, "d")
	if dirs := Dirs(s, d.Id); !slices.Equal(dirs, []string{""}) {
		t.Errorf("Dirs: %q", dirs)
	}
	p, x := Load(s, d.Id)
	if is := shown(p, filesByWords(s, d.Id)); !slices.Equal(is, []string{": any", "//:t any files=b"}) || len(x) != 0 {
		t.Errorf("%q, problems %v", is, x)
	}
}

// under returns the tree with a tree below so many directories d.
func under(t *testing.T, s *store.Store, levels, root int) int {
	t.Helper()
	for range levels {
		next, e := s.Tree([]api.Entry{{Name: "d", Dir: true, Id: root}})
		if e != api.OK {
			t.Fatalf("error %d", e)
		}
		root = next
	}
	return root
}

func TestP12_1TreesDeeperThanPaths(t *testing.T) {
	s := store.New()
	low := rootOf(t, s, "BUILD", "target t { srcs glob(\"**\"), \"a/b\"; }", "a/b", "x", "c", "y")
	for _, levels := range []int{1, 17, 18, 19, 20, 21, 30, 300} {
		root := under(t, s, levels, low)
		dir := strings.Repeat("d/", levels-1) + "d"
		if dirs := Dirs(s, root); !slices.Equal(dirs, []string{dir}) {
			t.Errorf("%d levels: %q", levels, dirs)
		}
		p, x := Load(s, root)
		want := []string{dir + ": any", "//" + dir + ":t any files=" + dir + "/a/b," + dir + "/c"}
		if is := shown(p, filesByWords(s, root)); !slices.Equal(is, want) || len(x) != 0 {
			t.Errorf("%d levels: %q, problems %v", levels, is, x)
		}
	}
}

func TestP12_2Packages(t *testing.T) {
	loads(t, []string{"a/b/BUILD", "target x {}", "a/BUILD", "target y {} target z {}", "BUILD", "", "c/BUILD", "# nothing", "d/e", "target w {}"},
		[]string{": any", "a: any", "//a:y any", "//a:z any", "a/b: any", "//a/b:x any", "c: any"}, nil)
	loads(t, []string{"a", "target t {}", "b/build", "target t {"}, nil, nil)
	loads(t, []string{"d/A/BUILD", "target a {}", "d/BUILD", "target b {}"}, []string{"d: any", "//d:b any", "d/A: any", "//d/A:a any"}, nil)
	// Equal build files, with the same number.
	loads(t, []string{"a/BUILD", "target t { srcs \"x\"; }", "b/BUILD", "target t { srcs \"x\"; }", "b/x", ""},
		[]string{"a: any", "//a:t any", "b: any", "//b:t any files=b/x"}, []string{"a/BUILD 1 44"})
}

func TestP12_2Platforms(t *testing.T) {
	loads(t, []string{"BUILD", "platforms mac;"}, []string{": mac"}, nil)
	loads(t, []string{"BUILD", "platforms z, b, any, a;\ntarget t {}"}, []string{": z,b,any,a", "//:t z line=2", "//:t b line=2", "//:t any line=2", "//:t a line=2"}, nil)
	// Each package has its own.
	loads(t, []string{"BUILD", "platforms linux; target t {}", "d/BUILD", "target t {}", "e/BUILD", "platforms mac; target t {}"},
		[]string{": linux", "//:t linux", "d: any", "//d:t any", "e: mac", "//e:t mac"}, nil)
}

func TestP12_2ErrorsOfBuildFiles(t *testing.T) {
	loads(t, []string{"BUILD", "target"}, []string{": "}, []string{"BUILD 1 40"})
	loads(t, []string{"d/BUILD", "\n\n@"}, []string{"d: "}, []string{"d/BUILD 3 40"})
	loads(t, []string{"BUILD", "platforms a, b; target t {}\ntarget u {\n}}"}, []string{": "}, []string{"BUILD 3 40"})
	loads(t, []string{"BUILD", "platforms a,\na;"}, []string{": "}, []string{"BUILD 2 42"})
	loads(t, []string{"BUILD", "platforms a;\ntarget t { cost\n0; }"}, []string{": "}, []string{"BUILD 3 41"})
	loads(t, []string{"BUILD", "target t {}\ntarget t {}"}, []string{": "}, []string{"BUILD 2 42"})
	// Nothing else of such a file is a problem, and others are as they would be.
	loads(t, []string{"BUILD", "target t { srcs \"none\"; }", "a/BUILD", "target t { srcs \"none\"; } target", "b/BUILD", "target t { srcs \"x\"; }", "b/x", "", "c/BUILD", "}"},
		[]string{": any", "//:t any", "a: ", "b: any", "//b:t any files=b/x", "c: "}, []string{"BUILD 1 44", "a/BUILD 1 40", "c/BUILD 1 40"})
}

func TestP12_2FilesBelongToPackagesWithErrors(t *testing.T) {
	loads(t, []string{"BUILD", "target t { srcs glob(\"**\"), \"d/x\"; }", "d/BUILD", "target {", "d/x", "", "e/x", ""},
		[]string{": any", "//:t any files=e/x", "d: "}, []string{"BUILD 1 44", "d/BUILD 1 40"})
}

func TestP12_2OrderOfProblems(t *testing.T) {
	loads(t, []string{"d/BUILD", "target t {\nsrcs \"a\"; }\ntarget u {\nsrcs \"b\"; }", "BUILD", "\n\n\n\n\ntarget t {\nsrcs \"c\"; }", "d/A/BUILD", "target", "c/BUILD", "target t { srcs \"/\"; }"},
		[]string{": any", "//:t any line=6", "c: any", "//c:t any", "d: any", "//d:t any", "//d:u any line=3", "d/A: "},
		[]string{"BUILD 7 44", "c/BUILD 1 10", "d/BUILD 2 44", "d/BUILD 4 44", "d/A/BUILD 1 40"})
}

// severalTargets returns a build file with targets whose names are numbers.
func severalTargets(many int) string {
	var source strings.Builder
	for n := range many {
		source.WriteString("target t" + strconv.Itoa(n) + "{}")
	}
	return source.String()
}

func TestP12_5Limit(t *testing.T) {
	files := []string{"OWNERS", "", "wrong/BUILD", "target t {} target u {} target"}
	for n := range 5 {
		files = append(files, "d"+strconv.Itoa(n)+"/BUILD", severalTargets(4000))
	}
	s := store.New()
	p, x := Load(s, rootOf(t, s, files...))
	if len(p) != 6 || len(p[0].Variants) != 4000 || len(p[4].Variants) != 4000 || len(p[5].Variants) != 0 || len(x) != 1 || x[0] != (api.Problem{Path: "wrong/BUILD", Line: 1, Kind: api.ErrSyntax}) {
		t.Errorf("20000 targets: %d packages, %v", len(p), x)
	}
	for _, more := range []string{"target t {}", "platforms a, b; target t { srcs \"none\"; }", severalTargets(4000)} {
		for _, at := range []string{"BUILD", "d/BUILD", "d4/a/BUILD", "z/BUILD"} {
			root := rootOf(t, s, append(files, at, more)...)
			p, x = Load(s, root)
			if len(p) != 0 || len(x) != 1 || x[0] != (api.Problem{Path: "", Line: 0, Kind: api.ErrMany}) {
				t.Errorf("more than 20000 targets with %s: %d packages, %v", at, len(p), x)
			}
			if dirs := Dirs(s, root); len(dirs) != 7 {
				t.Errorf("%d directories", len(dirs))
			}
		}
	}
}

// TestP12_5Variants has more variants than there may be targets.
func TestP12_5Variants(t *testing.T) {
	platforms := "platforms p0"
	for n := range 99 {
		platforms += ", p" + strconv.Itoa(n+1)
	}
	s := store.New()
	p, x := Load(s, rootOf(t, s, "BUILD", platforms+";"+severalTargets(301)))
	if len(p) != 1 || len(p[0].Platforms) != 100 || len(p[0].Variants) != 30100 || len(x) != 0 {
		t.Fatalf("%d packages, %v", len(p), x)
	}
	for i, v := range p[0].Variants {
		if v.Label != "//:t"+strconv.Itoa(i/100) || v.Platform != "p"+strconv.Itoa(i%100) {
			t.Fatalf("variant %d: %v", i, v)
		}
	}
}

func TestP12_6FilesWithoutEffect(t *testing.T) {
	files := []string{"d/BUILD", "target t { srcs \"a\", glob(\"*.h\"); } target g { kind gen; out \"o\", \"p/q\"; }", "d/a", "", "d/b.h", ""}
	packages := []string{"d: any", "//d:t any files=d/a,d/b.h", "//d:g any kind=4 outs=d/o,d/p/q"}
	for _, more := range [][]string{
		nil, {"x", ""}, {"a", ""}, {"o", ""}, {"d-/a", ""}, {"d.h", ""}, {"e/o", "", "e/b.h", ""},
		{"d/c", ""}, {"d/A", ""}, {"d/e/c.h", ""}, {"d/o.h/x", ""}, {"d/oo", ""}, {"d/o-/x", ""}, {"d/p/r", ""}, {"d/q", ""},
		{"d/OWNERS", ""}, {"d/p/OWNERS", ""}, {"OWNERS", ""}, {"d/BUILD.h/x", ""}, {"d/BUILDS", ""},
	} {
		loads(t, append(more, files...), packages, nil)
	}
	// Those that have one: sources, and names of Outs and what lies below them.
	loads(t, append(files, "d/c.h", ""), []string{"d: any", "//d:t any files=d/a,d/b.h,d/c.h", packages[2]}, nil)
	loads(t, append(files, "d/o", ""), []string{"d: any", packages[1], "//d:g any kind=4 outs=d/p/q"}, []string{"d/BUILD 1 11"})
	loads(t, append(files, "d/o/x/y", ""), []string{"d: any", packages[1], "//d:g any kind=4 outs=d/p/q"}, []string{"d/BUILD 1 11"})
	loads(t, append(files, "d/p/q/r", ""), []string{"d: any", packages[1], "//d:g any kind=4 outs=d/o"}, []string{"d/BUILD 1 11"})
	loads(t, append(files, "BUILD", ""), append([]string{": any"}, packages...), nil)
}

func TestP12_6OnlyTheFilesCount(t *testing.T) {
	files := []string{"BUILD", "target t { srcs glob(\"**\"); }", "a", "x", "d/b", "y", "e/BUILD", "target"}
	s, other := store.New(), store.New()
	for _, text := range []string{"other", "y", "objects", "x"} {
		if _, e := other.Blob(text); e != api.OK {
			t.Fatalf("error %d", e)
		}
	}
	root, otherRoot := rootOf(t, s, files...), rootOf(t, other, files...)
	p, x := Load(s, root)
	q, y := Load(other, otherRoot)
	want := []string{": any", "//:t any files=a,d/b", "e: "}
	if is := shown(p, filesByWords(s, root)); !slices.Equal(is, want) {
		t.Errorf("%q", is)
	}
	if is := shown(q, filesByWords(other, otherRoot)); !slices.Equal(is, want) || !slices.Equal(x, y) {
		t.Errorf("%q, problems %v and %v", is, x, y)
	}
}
