package packages

import (
	"slices"
	"strings"
	"testing"

	"mainline/api"
	"mainline/store"
)

// inRoot returns a store with a tree that has this build file in the root, and other files, which are written as their paths; build files among them are empty.
func inRoot(t *testing.T, source string, others []string) (*store.Store, int) {
	t.Helper()
	written := []string{"BUILD", source}
	for _, path := range others {
		text := "contents of " + path
		if strings.HasSuffix(path, "/BUILD") {
			text = ""
		}
		written = append(written, path, text)
	}
	s := store.New()
	return s, rootOf(t, s, written...)
}

// becomes checks the variants of the build file of the root; the other files are written as their paths.
func becomes(t *testing.T, source string, others []string, variants ...string) {
	t.Helper()
	s, root := inRoot(t, source, others)
	p, x := follows(t, s, root)
	var root0 []api.Package
	if len(p) > 0 {
		root0 = p[:1]
	}
	if is := shown(root0, filesByWords(s, root)); len(is) == 0 || !slices.Equal(is[1:], variants) {
		t.Errorf("%s with %q:\n%s\nwant\n%s\nproblems %v", source, others, strings.Join(is, "\n"), strings.Join(variants, "\n"), x)
	}
}

func TestP12_4Examples(t *testing.T) {
	loads(t, []string{"lib/BUILD", "target a { srcs \"x.c\", glob(\"*.h\"); deps \":b\"; }", "lib/x.c", "1", "lib/y.h", "2", "lib/sub/z.h", "3"},
		[]string{"lib: any", "//lib:a any files=lib/x.c,lib/y.h deps=:b"}, nil)
	loads(t, []string{"BUILD", "target g { kind gen; out \"o.txt\"; } target t { srcs \"o.txt\"; }"}, []string{": any", "//:g any kind=4 outs=o.txt", "//:t any deps=:g"}, nil)
	loads(t, []string{"BUILD", "target t { srcs \"none.c\"; }"}, []string{": any", "//:t any"}, []string{"BUILD 1 44"})
	loads(t, []string{"BUILD", "platforms linux, mac; target t { srcs linux \"a.c\"; }", "a.c", ""}, []string{": linux,mac", "//:t linux files=a.c", "//:t mac"}, nil)
}

func TestP12_4Order(t *testing.T) {
	becomes(t, "platforms b, a; target y {} target x {}\ntarget z {}", nil, "//:y b", "//:y a", "//:x b", "//:x a", "//:z b line=2", "//:z a line=2")
	becomes(t, "", nil)
	becomes(t, "platforms a, b;", nil)
}

func TestP12_4Labels(t *testing.T) {
	for dir, label := range map[string]string{"": "//:t-1.x", "a/": "//a:t-1.x", "a/b.c/d/": "//a/b.c/d:t-1.x"} {
		loads(t, []string{dir + "BUILD", "target t-1.x {}"}, []string{strings.TrimSuffix(dir, "/") + ": any", label + " any"}, nil)
	}
	becomes(t, "target BUILD {} target target {} target any {} target _ {}", nil, "//:BUILD any", "//:target any", "//:any any", "//:_ any")
}

func TestP12_4Attributes(t *testing.T) {
	becomes(t, "target a { kind lib; cost 7; }\ntarget b { kind bin; cost 1000; }\n\ntarget\nc { retry\n5; kind test; } target d { kind gen; } target e { kind test; retry 1; cost 3; }", nil,
		"//:a any cost=7", "//:b any kind=2 line=2 cost=1000", "//:c any kind=3 line=4 retry=5", "//:d any kind=4 line=6", "//:e any kind=3 line=6 cost=3 retry=1")
	becomes(t, "platforms a, b; target t { kind test; cost 2; retry 3; }", nil, "//:t a kind=3 cost=2 retry=3", "//:t b kind=3 cost=2 retry=3")
}

func TestP12_4FilesOfNames(t *testing.T) {
	others := []string{"a", "b", "b.c", "d/a", "d/e/f", "p/BUILD", "p/a", "z"}
	becomes(t, "target t { srcs \"b\"; }", others, "//:t any files=b")
	becomes(t, "target t { srcs \"z\", \"d/e/f\", \"a\"; }", others, "//:t any files=a,d/e/f,z") // in order
	becomes(t, "target t { srcs \"b\", \"a\", \"b\"; srcs \"b\"; srcs \"a\"; }", others, "//:t any files=a,b")
	becomes(t, "target t { srcs \"p/a\", \"none\", \"..\", \"a\", \"d\", \"BUILD\"; }", others, "//:t any files=a") // others with problems
	becomes(t, "target t { srcs \"a\"; } target u { srcs \"a\", \"b\"; } target v {}", others, "//:t any files=a", "//:u any files=a,b", "//:v any")
}

func TestP12_4OrderOfFiles(t *testing.T) {
	others := []string{"a-", "a.b", "a/b", "a/b-/c", "a/b.x", "a/c/d", "a0", "A", "aa", "_"}
	becomes(t, "target t { srcs glob(\"**\"); }", others, "//:t any files=A,_,a/b,a/b-/c,a/b.x,a/c/d,a-,a.b,a0,aa")
	becomes(t, "target t { srcs \"aa\", glob(\"a/**\"), \"a-\", \"A\", glob(\"a*\"); }", others, "//:t any files=A,a/b,a/b-/c,a/b.x,a/c/d,a-,a.b,a0,aa")
}

func TestP12_4FilesOfGlobs(t *testing.T) {
	others := []string{"a.c", "a.h", "b.c", "d/a.c", "d/e/b.c", "d/e/c.h", "f/a.h"}
	for glob, files := range map[string]string{
		"*.c": "a.c,b.c", "**": "a.c,a.h,b.c,d/a.c,d/e/b.c,d/e/c.h,f/a.h", "**/*.c": "a.c,b.c,d/a.c,d/e/b.c", "*/*.c": "d/a.c", "d/**": "d/a.c,d/e/b.c,d/e/c.h",
		"?.h": "a.h", "a.c": "a.c", "d/e/b.c": "d/e/b.c", "*": "a.c,a.h,b.c", "**/a.?": "a.c,a.h,d/a.c,f/a.h", "a*": "a.c,a.h", "d": "", "d/*": "d/a.c", "d/e": "", "x*": "", "d/**/e/*.h": "d/e/c.h",
		"..": "", "": "", "a.**": "", "/a.c": "",
	} {
		want := "//:t any"
		if files != "" {
			want += " files=" + files
		}
		becomes(t, "target t { srcs glob(\""+glob+"\"); }", others, want)
	}
	becomes(t, "target t { srcs glob(\"*.h\"), glob(\"*.c\"), glob(\"*.h\"), \"b.c\", glob(\"a.*\"); }", others, "//:t any files=a.c,a.h,b.c") // each once
	becomes(t, "target t { srcs glob(\"*.h\"), glob(\"**c\"), glob(\"*b*\"); }", others, "//:t any files=a.h,b.c")
	// The same Glob of several targets.
	becomes(t, "target t { srcs glob(\"*.c\"), \"a.h\"; } target u { srcs glob(\"*.c\"); } target v { srcs \"d/a.c\", glob(\"*.c\"); }", others,
		"//:t any files=a.c,a.h,b.c", "//:u any files=a.c,b.c", "//:v any files=a.c,b.c,d/a.c")
}

func TestP12_4SourceFiles(t *testing.T) {
	others := []string{"OWNERS", "d/OWNERS", "d/x", "BUILD-", "build", "OWNERS-", "owners", "OWNERS.d/OWNER", "d/BUILD.x", "e/BUILD/x", "e/OWNERS/y", "p/BUILD", "p/OWNERS", "p/x", "p/q/x", "p-/x", "p.x"}
	becomes(t, "target t { srcs glob(\"**\"); }", others, "//:t any files=BUILD-,OWNERS-,OWNERS.d/OWNER,build,d/BUILD.x,d/x,e/BUILD/x,e/OWNERS/y,owners,p-/x,p.x")
	becomes(t, "target t { srcs glob(\"BUILD\"), glob(\"OWNERS\"), glob(\"**/OWNERS\"), glob(\"**/BUILD\"), glob(\"p/**\"); }", others, "//:t any")
}

func TestP12_4FilesOfTheDeepestPackage(t *testing.T) {
	all := "target t { srcs glob(\"**\"); }"
	loads(t, []string{"BUILD", all, "x", "", "a/x", "", "a/b/BUILD", all, "a/b/x", "", "a/b/c/x", "", "a/b/c/d/BUILD", all, "a/b/c/d/x", "", "a/b/c/d/e/x", "", "a/b-/x", "", "a/c/x", "", "b/x", ""},
		[]string{": any", "//:t any files=a/b-/x,a/c/x,a/x,b/x,x", "a/b: any", "//a/b:t any files=a/b/c/x,a/b/x", "a/b/c/d: any", "//a/b/c/d:t any files=a/b/c/d/e/x,a/b/c/d/x"}, nil)
	// Without a package at the root.
	loads(t, []string{"a/BUILD", all, "a-/x", "", "a/x", "", "a/z/x", "", "b/x", "", "b/c/BUILD", all, "b/c/x", "", "x", "", "A/x", "", "b/d/x", "", "c/x", ""},
		[]string{"a: any", "//a:t any files=a/x,a/z/x", "b/c: any", "//b/c:t any files=b/c/x"}, nil)
	// Neighbours, one behind the other, and files between them.
	loads(t, []string{"a/BUILD", all, "a/b/BUILD", all, "a/b/x", "", "a/bx", "", "a/c/BUILD", all, "a/c/x", "", "a/d", "", "a/e/f/BUILD", all, "a/e/f/x", "", "a/e/g", "", "b/x", ""},
		[]string{"a: any", "//a:t any files=a/bx,a/d,a/e/g", "a/b: any", "//a/b:t any files=a/b/x", "a/c: any", "//a/c:t any files=a/c/x", "a/e/f: any", "//a/e/f:t any files=a/e/f/x"}, nil)
}

// TestP12_4FilesWithLongPaths has files whose names in the package are paths, or match, although their paths in the tree do not, or would not.
func TestP12_4FilesWithLongPaths(t *testing.T) {
	deep := strings.Repeat("d/", 17)
	loads(t, []string{deep + "BUILD", "target t { srcs glob(\"*/*\"), glob(\"a\"), \"b\"; }", deep + "a", "", deep + "b", "", deep + "c", "", deep + "e/f", "", deep + "e/g", ""},
		[]string{deep[:33] + ": any", "//" + deep[:33] + ":t any files=" + deep + "a," + deep + "b," + deep + "e/f," + deep + "e/g"}, nil)
	s := store.New()
	for levels, want := range map[int]string{18: "any files=" + strings.Repeat("d/", 18) + "x/y", 19: "any"} { // y with 20 and 21 components
		low := rootOf(t, s, "x/y", "")
		build, _ := s.Blob("target t { srcs glob(\"**\"); }")
		root, e := s.Tree([]api.Entry{{Name: "BUILD", Id: build}, {Name: "d", Dir: true, Id: under(t, s, levels-1, low)}})
		if e != api.OK {
			t.Fatalf("error %d", e)
		}
		p, x := Load(s, root)
		if is := shown(p, filesByWords(s, root)); !slices.Equal(is, []string{": any", "//:t " + want}) || len(x) != 0 {
			t.Errorf("%d levels: %q, problems %v", levels, is, x)
		}
	}
}

func TestP12_4Outs(t *testing.T) {
	becomes(t, "target g { kind gen; out \"z\", \"d/a\"; out \"b\"; } target h { kind gen; out \"a\"; }", nil, "//:g any kind=4 outs=z,d/a,b", "//:h any kind=4 outs=a")
	becomes(t, "target g { kind gen; out \"z\", \"..\", \"x\", \"z\", \"b\", \"\"; } target h { kind gen; out \"z\", \"c\"; } target i { out \"q\"; }", []string{"x"},
		"//:g any kind=4 outs=z,b", "//:h any kind=4 outs=c", "//:i any")
	becomes(t, "platforms a, b; target g { kind gen; out \"z\", \"y\"; }", nil, "//:g a kind=4 outs=z,y", "//:g b kind=4 outs=z,y")
	loads(t, []string{"d/e/BUILD", "target g { kind gen; out \"z\", \"y/x\"; }"}, []string{"d/e: any", "//d/e:g any kind=4 outs=d/e/z,d/e/y/x"}, nil)
	// Outs are no files: no Glob matches them.
	becomes(t, "target g { kind gen; out \"o.c\"; } target t { srcs glob(\"*.c\"); }", []string{"a.c"}, "//:g any kind=4 outs=o.c", "//:t any files=a.c")
}

func TestP12_4Deps(t *testing.T) {
	becomes(t, "target t { deps \":b\", \"//a:c\"; deps \"x\",\n\"\"; deps \":b\"; }", nil, "//:t any deps=:b,//a:c,x,@2,:b@2")
	becomes(t, "platforms a, b; target t { deps a \":x\"; deps \":y\"; deps b \":z\", \":x\"; deps c \":w\"; deps any \":v\"; deps a \":u\"; }", nil,
		"//:t a deps=:x/a,:y,:u/a", "//:t b deps=:y,:z/b,:x/b")
	becomes(t, "target t { deps any \":x\"; deps a \":y\"; deps \":z\"; }", nil, "//:t any deps=:x/any,:z")
}

func TestP12_4DepsOnGenerators(t *testing.T) {
	g := "target g { kind gen; out \"o\", \"d/p\"; }"
	becomes(t, g+"target t { srcs \"d/p\",\n\"a\", \"o\"; }", []string{"a"}, "//:g any kind=4 outs=o,d/p", "//:t any files=a deps=:g,:g@2")
	becomes(t, "target t { srcs\n\"o\"; deps \":z\";\n srcs \"o\"; deps \":y\"; }"+g, nil, "//:t any deps=:z@2,:y@3,:g@2,:g@3", "//:g any kind=4 line=3 outs=o,d/p") // behind the others; each item
	becomes(t, "target g { kind gen; srcs \"o\"; out \"o\"; }", nil, "//:g any kind=4 outs=o deps=:g")
	becomes(t, "target h { kind gen; out \"q\"; srcs \"o\"; }"+g+"target t { srcs \"q\", \"o\", \"d/p\"; }", nil, "//:h any kind=4 outs=q deps=:g", "//:g any kind=4 outs=o,d/p", "//:t any deps=:h,:g,:g")
	// Globs, items with problems, and source files lead to none.
	becomes(t, g+"target t { srcs glob(\"o\"), glob(\"**\"), \"none\", \"..\"; }", nil, "//:g any kind=4 outs=o,d/p", "//:t any")
	becomes(t, g+"target t { srcs \"o\"; }", []string{"o"}, "//:g any kind=4 outs=d/p", "//:t any files=o")
	becomes(t, "target u { out \"o\"; } target t { srcs \"o\"; }", nil, "//:u any", "//:t any")
	// Of several targets with the Out, it is the one without the problem.
	becomes(t, g+"target h { kind gen; out \"o\"; } target t { srcs \"o\"; }", nil, "//:g any kind=4 outs=o,d/p", "//:h any kind=4", "//:t any deps=:g")
}

func TestP12_4DepsOnGeneratorsOfPlatforms(t *testing.T) {
	source := "platforms a, b; target t { srcs a \"o\";\nsrcs \"p\"; srcs b\n\"q\"; srcs c \"o\"; deps b \":x\"; deps \":y\"; }\ntarget g { kind gen; out \"o\", \"p\", \"q\"; }"
	becomes(t, source, nil, "//:t a deps=:y@3,:g,:g@2", "//:t b deps=:x@3/b,:y@3,:g@2,:g@3", "//:g a kind=4 line=4 outs=o,p,q", "//:g b kind=4 line=4 outs=o,p,q")
}

func TestP12_4FilesOfPlatforms(t *testing.T) {
	source := "platforms a, b; target t { srcs \"x\"; srcs a \"y\", glob(\"*.c\"); srcs b glob(\"*.h\"), \"y\"; srcs c \"z\"; srcs a \"v\"; }"
	becomes(t, source, []string{"x", "y", "z", "v", "1.c", "2.h"}, "//:t a files=1.c,v,x,y", "//:t b files=2.h,x,y")
	becomes(t, "target t { srcs any \"x\"; srcs a \"y\"; }", []string{"x", "y"}, "//:t any files=x")
	becomes(t, "platforms a, any; target t { srcs any \"x\"; srcs a \"y\"; }", []string{"x", "y"}, "//:t a files=y", "//:t any files=x") // a platform like others
}

func TestP12_4Visible(t *testing.T) {
	becomes(t, "target t { visible \"public\", \"//b\"; visible \"\"; visible \"//b\",\n\"..\"; }", nil, "//:t any visible=public,//b,,//b,..")
	becomes(t, "platforms a, b; target t { visible \"//x/...\"; }", nil, "//:t a visible=//x/...", "//:t b visible=//x/...")
}
