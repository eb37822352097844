package packages

import (
	"strings"
	"testing"
)

// has checks the problems of the build file of the root, which are written as their lines and kinds; the other files are written as their paths.
func has(t *testing.T, source string, others []string, problems ...string) {
	t.Helper()
	s, root := inRoot(t, source, others)
	p, x := follows(t, s, root)
	is := strings.Join(shownProblems(x), "; ")
	want := "BUILD " + strings.Join(problems, "; BUILD ")
	if len(problems) == 0 {
		want = ""
	}
	if is != want {
		t.Errorf("%s, problems %q; want %q: %q", source, is, want, shown(p, filesByWords(s, root)))
	}
}

// gen returns a gen target with these items of Outs, each in a line of its own, from line 1 on.
func gen(outs ...string) string {
	return "target g { kind gen; out \"" + strings.Join(outs, "\",\n\"") + "\"; }"
}

func TestP12_3OutsThatAreNoPaths(t *testing.T) {
	long := strings.Repeat("n", 200)
	deep := strings.Repeat("d/", 19) + "d"
	has(t, gen("a", "b.c", "a-/b_", long, deep), nil)
	has(t, gen("", "/", "/a", "a/", "a//b", ".", "a/./b", ".."), nil, "1 10", "2 10", "3 10", "4 10", "5 10", "6 10", "7 10", "8 10")
	has(t, gen("a", long+"n", "d/"+deep, "*.c", "a?", "a b", "b", "\xff"), nil, "2 10", "3 10", "4 10", "5 10", "6 10", "8 10")
	has(t, gen("..", ".."), nil, "1 10", "2 10") // before ErrTwice
	// The item is the path, not what it is in the tree.
	loads(t, []string{"d/d/BUILD", gen(deep)}, []string{"d/d: any", "//d/d:g any kind=4 outs=d/d/" + deep}, nil)
	loads(t, []string{"d/d/BUILD", gen(long)}, []string{"d/d: any", "//d/d:g any kind=4 outs=d/d/" + long}, nil)
}

func TestP12_3OutsOfOtherKinds(t *testing.T) {
	for kind, problems := range map[string][]string{"": {"1 13", "2 13"}, "kind lib;": {"1 13", "2 13"}, "kind bin;": {"1 13", "2 13"}, "kind test;": {"1 13", "2 13"}, "kind gen;": nil} {
		has(t, "target t {"+kind+" out \"a\",\n\"b\"; }", nil, problems...)
		has(t, "target t { out \"a\",\n\"b\";"+kind+"}", nil, problems...)
	}
	has(t, "target t { out \"a\",\n\"..\",\n\"x\",\n\"a\"; }", []string{"x"}, "1 13", "2 10", "3 13", "4 13") // behind ErrPath, before the others
	has(t, "target t { kind gen; }\ntarget u {}", nil)
}

func TestP12_3OutsThatExist(t *testing.T) {
	others := []string{"a", "d/x", "d/e/y", "p/BUILD", "p/x", "p/q/z", "OWNERS", "d/OWNERS"}
	has(t, gen("a", "d", "d/x", "d/e", "d/e/y"), others, "1 11", "2 11", "3 11", "4 11", "5 11")
	has(t, gen("p", "p/BUILD", "p/x", "p/q", "p/q/z"), others, "1 11", "2 11", "3 11", "4 11", "5 11") // of another package
	has(t, gen("BUILD", "OWNERS", "d/OWNERS"), others, "1 11", "2 11", "3 11")
	has(t, gen("a", "a"), others, "1 11", "2 11") // before ErrTwice
	// Other names, also below a file, and in other packages.
	has(t, gen("A", "aa", "a.", "a-", "a/b", "a/b/c", "d/", "b", "x", "d/y", "d/x/x", "d/xx", "d-", "d.x", "d-/x", "D/x", "d/e-", "d/e/x", "q", "p/z", "p/OWNERS", "d/BUILD"), others, "7 10")
	has(t, gen("a", "d"), []string{"a-", "a.b/c", "a0", "aa/d", "d.", "d-/x", "d0", "e/d"})
	has(t, gen("a", "d"), nil)
}

// TestP12_3OutsThatExistInPackages has names that stand for something only below the directory of the package, or only outside it.
func TestP12_3OutsThatExistInPackages(t *testing.T) {
	others := []string{"a", "", "d/e/x", "", "d-/b", "", "b/c", ""}
	for out, exists := range map[string]bool{"a": false, "e": true, "e/x": true, "d": false, "d/e": false, "b": false, "BUILD": true, "x": false, "c": false, "e/x/y": false} {
		outs, problems := " outs=d/"+out, []string(nil)
		if exists {
			outs, problems = "", []string{"d/BUILD 1 11"}
		}
		loads(t, append([]string{"d/BUILD", gen(out)}, others...), []string{"d: any", "//d:g any kind=4" + outs}, problems)
	}
}

func TestP12_3OutsDeclaredTwice(t *testing.T) {
	has(t, gen("a", "b", "a", "a", "b", "c"), nil, "3 42", "4 42", "5 42")
	has(t, gen("a", "b")+"\ntarget h { kind gen; out \"c\",\n\"b\",\n\"a\";\nout \"c\"; }", nil, "4 42", "5 42", "6 42")
	has(t, gen("a", "A", "a/b", "b/a", "b", "a.", "aa"), nil) // none of them equal
	// Also if the one before it has a problem.
	has(t, "target t { out \"a\"; }\n"+gen("b", "a"), nil, "1 13", "3 42")
	has(t, "target t { kind gen; out \"a\",\n\"b\"; }\ntarget u { out \"a\"; }\ntarget v { kind gen; out \"b\",\n\"a\"; }", nil, "3 13", "4 42", "5 42")
	// Not if it is in another package.
	loads(t, []string{"BUILD", gen("d/a"), "d/BUILD", gen("a")},
		[]string{": any", "//:g any kind=4 outs=d/a", "d: any", "//d:g any kind=4 outs=d/a"}, nil)
}

func TestP12_3SourcesOfOtherPlatforms(t *testing.T) {
	has(t, "platforms linux, mac; target t { srcs linux \"a\"; srcs mac glob(\"*\"); srcs \"a\"; }", []string{"a"})
	has(t, "platforms linux, mac; target t { srcs arm \"a\",\nglob(\"*\");\nsrcs any \"a\"; srcs Linux\n\"a\"; srcs linu\n\"a\"; }", []string{"a"}, "1 52", "2 52", "3 52", "4 52", "5 52")
	has(t, "target t { srcs any \"a\"; srcs linux\n\"a\"; }", []string{"a"}, "2 52")
	has(t, "platforms mac; target t { srcs any \"a\"; }", []string{"a"}, "1 52")
	has(t, "target t { srcs arm \"..\",\n\"none\",\nglob(\"..\"); }", nil, "1 52", "2 52", "3 52") // before the others
	loads(t, []string{"BUILD", "platforms linux; target t { srcs mac \"a\"; }", "a", "", "d/BUILD", "platforms mac; target t { srcs mac \"a\"; }", "d/a", ""},
		[]string{": linux", "//:t linux", "d: mac", "//d:t mac files=d/a"}, []string{"BUILD 1 52"})
}

func TestP12_3SourcesThatAreNoPaths(t *testing.T) {
	srcs := func(items ...string) string { return "target t { srcs " + strings.Join(items, ",\n") + "; }" }
	has(t, srcs(`""`, `"/a"`, `"a/"`, `"./a"`, `"b/../a"`, `"*"`, `"?"`, `"a b"`, `"a"`), []string{"a", "b/c"}, "1 10", "2 10", "3 10", "4 10", "5 10", "6 10", "7 10", "8 10")
	has(t, srcs(`glob("")`, `glob("/a")`, `glob("a/")`, `glob("./a")`, `glob("..")`, `glob("a**")`, `glob("***")`, `glob("a b")`, `glob("[a]")`), []string{"a"},
		"1 10", "2 10", "3 10", "4 10", "5 10", "6 10", "7 10", "8 10", "9 10")
	has(t, srcs(`glob("*")`, `glob("**")`, `glob("a?/*/**/x*y?")`, `glob("none")`, `glob("none/*")`, `glob("a")`), []string{"a"})
	deep, long := strings.Repeat("d/", 19)+"d", strings.Repeat("n", 200)
	has(t, srcs(`"`+deep+`"`, `"d/`+deep+`"`, `"`+long+`"`, `"n`+long+`"`, `glob("`+deep+`")`, `glob("*/`+deep+`")`, `glob("`+long+`")`, `glob("*`+long+`")`), nil,
		"1 44", "2 10", "3 44", "4 10", "6 10", "8 10")
}

func TestP12_3SourcesThatAreMissing(t *testing.T) {
	others := []string{"a", "d/x", "d/e/y", "d/OWNERS", "OWNERS", "p/BUILD", "p/x", "p/q/z", "BUILD-", "OWNERS.x", "OWNERS-/x", "e/BUILD.x", "f/BUILD/x"}
	srcs := func(names ...string) string { return "target t { srcs \"" + strings.Join(names, "\",\n\"") + "\"; }" }
	has(t, srcs("a", "d/x", "d/e/y", "a", "BUILD-", "OWNERS.x", "OWNERS-/x", "e/BUILD.x", "f/BUILD/x"), others)
	has(t, srcs("A", "aa", "a/b", "b", "x", "d/y", "d/x/x", "none/a"), others, "1 44", "2 44", "3 44", "4 44", "5 44", "6 44", "7 44", "8 44")
	has(t, srcs("d", "d/e", "e", "f/BUILD"), others, "1 44", "2 44", "3 44", "4 44") // directories
	has(t, srcs("BUILD", "OWNERS", "d/OWNERS", "p/BUILD", "d/BUILD"), others, "1 44", "2 44", "3 44", "4 44", "5 44")
	has(t, srcs("p/x", "p/q/z", "p"), others, "1 44", "2 44", "3 44") // of another package
	has(t, srcs("d/a", "e/y", "x"), []string{"a", "d/e/y", "d/x"}, "1 44", "2 44", "3 44")
	has(t, "target t { srcs glob(\"none*\"), glob(\"BUILD\"), glob(\"none\"); }", nil)
	// Relative to the package, not to the root.
	loads(t, []string{"d/BUILD", srcs("a", "d/a", "d/b", "b"), "a", "", "d/b", "", "b/d/b", ""},
		[]string{"d: any", "//d:t any files=d/b"}, []string{"d/BUILD 1 44", "d/BUILD 2 44", "d/BUILD 3 44"})
}

func TestP12_3SourcesThatAreGenerated(t *testing.T) {
	t2 := "target t { srcs \"o\",\n\"d/p\",\n\"q\"; }\n"
	has(t, gen("o", "d/p")+"\n"+t2, nil, "5 44")
	has(t, t2+gen("o", "d/p", "q"), nil) // a later target
	has(t, "target g { kind gen; srcs \"o\"; out \"o\"; }", nil)
	has(t, "target g { kind gen; out \"OWNERS\"; srcs \"OWNERS\"; }", nil)
	// An item with a problem is none.
	has(t, "target t { srcs \"o\"; }\ntarget u { out \"o\"; }", nil, "1 44", "2 13")
	has(t, "target t { srcs \"d\"; }\n"+gen("d"), []string{"d/x"}, "1 44", "2 11")
	has(t, "target t { srcs \"p/x\"; }\n"+gen("p/x"), []string{"p/BUILD", "p/x"}, "1 44", "2 11")
	has(t, "target t { srcs \"BUILD\"; }\n"+gen("BUILD"), nil, "1 44", "2 11")
	has(t, "target t { srcs \"o\"; }\ntarget u { out \"o\"; }\n"+gen("o"), nil, "1 44", "2 13", "3 42")
	has(t, "target t { srcs \"o\"; }\n"+gen("o", "o"), nil, "3 42")
	has(t, "target t { srcs \"a\"; }\n"+gen("a"), []string{"a"}, "2 11") // but it is a source file
	// Outs of other packages are none.
	loads(t, []string{"BUILD", gen("d/o") + "\ntarget t { srcs \"d/o\",\n\"p\"; }", "d/BUILD", gen("p") + "\ntarget t { srcs \"o\"; }"},
		[]string{": any", "//:g any kind=4 outs=d/o", "//:t any line=2 deps=:g@2", "d: any", "//d:g any kind=4 outs=d/p", "//d:t any line=2"}, []string{"BUILD 3 44", "d/BUILD 2 44"})
}

func TestP12_3DepsOfOtherPlatforms(t *testing.T) {
	has(t, "platforms linux, mac; target t { deps linux \":a\"; deps mac \":b\"; deps \":c\"; }", nil)
	has(t, "platforms linux, mac; target t { deps arm \":a\",\n\":b\"; deps any\n\":c\"; deps linux \":d\"; }", nil, "1 52", "2 52", "3 52")
	has(t, "target t { deps any \":a\"; deps linux\n\":b\"; }", nil, "2 52")
	has(t, "target t { deps \"\", \"none\", \"..\", \":t\", \"//x:y\", \"//x:y\"; visible \"\", \"..\"; }", nil) // the texts play no part
}

func TestP12_3OrderOfProblems(t *testing.T) {
	has(t, `target a {
		deps x
		":b",
		":c";
		srcs "n",
		"..",
		x "a";
	}`, nil, "7 40")
	has(t, `target a {
		deps x
		":b",
		":c";
		srcs "n",
		"..";
		srcs x "a";
		out "a",
		"..";
		deps y ":d"; srcs y "b"; out "c";
	}
	target b { kind gen; deps
	x ":a"; srcs
	"n"; out
	"c"; }`, nil, "8 13", "9 10", "10 13", "5 44", "6 10", "7 52", "10 52", "3 52", "4 52", "10 52", "15 42", "14 44", "13 52")
	// Each item has one problem, and each one its own, in whatever line it is.
	has(t, "target a { srcs \"n\", \"n\", \"m\"; } target b { srcs \"n\"; }", nil, "1 44", "1 44", "1 44", "1 44")
}

func TestP12_3LinesAreThoseOfTheItems(t *testing.T) {
	has(t, "\n\n\ntarget t\n{\nsrcs\nx\n\"a\"\n,\nglob\n(\n\"..\"\n)\n; }", nil, "8 52", "12 52")
	has(t, "\n\ntarget t {\nsrcs\nglob\n(\n\"..\"\n)\n; }", nil, "7 10")
}
