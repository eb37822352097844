package syntax

import (
	"maps"
	"slices"
	"strconv"
	"strings"
	"testing"

	"mainline/api"
	"mainline/samples"
)

// lib returns a target of which only the name and the line are told.
func lib(name string, line int) api.Target {
	return api.Target{Name: name, Kind: api.Lib, Line: line, Cost: 1}
}

// item returns an item of a target.
func item(text string, glob bool, platform string, line int) api.Item {
	return api.Item{Text: text, Glob: glob, Platform: platform, Line: line}
}

// only returns the build of one target.
func only(t api.Target) api.Build {
	return api.Build{Targets: []api.Target{t}}
}

// within returns a source with a target that has these attributes.
func within(attributes string) string {
	return "target a { " + attributes + " }"
}

func TestP11_1Examples(t *testing.T) {
	want := lib("a", 1)
	want.Srcs = []api.Item{{Text: "x.go", Line: 1}, {Text: "*.c", Glob: true, Line: 1}}
	want.Deps = []api.Item{{Text: "//b:c", Platform: "linux", Line: 1}}
	parses(t, `target a { srcs "x.go", glob("*.c"); deps linux "//b:c"; }`, only(want), 0, api.OK)
	fails(t, `target a { kind lib; kind lib; }`, 1, api.ErrTwice)
	fails(t, `target a { cost 0; }`, 1, api.ErrNumber)
	fails(t, "target a {\ndeps glob(\"x\"); }", 2, api.ErrSyntax)
}

func TestP11_1NoTargets(t *testing.T) {
	for _, s := range []string{"", " ", "\n", "#", "# a", "#\n", "\r\n\t # platforms\n\n"} {
		parses(t, s, api.Build{}, 0, api.OK)
	}
	parses(t, "platforms\na;", api.Build{Platforms: []api.Item{{Text: "a", Line: 2}}}, 0, api.OK)
}

func TestP11_1AllAttributes(t *testing.T) {
	const source = `# all of them
platforms linux,
  target # a word
  , platforms;
target kind {
  out "o", # "p",
    "q"; retry 5;
  srcs glob ( "*.c" ), "glob", glob(
    "?"
  ); srcs srcs "s";
  visible "public", "//a:b"; deps ":x"; cost 1000; kind test; deps linux ":y", ":z"; srcs "";
  srcs linux glob("l"), "m"; deps target ":t"; out "r"; visible "";
}
target target { }target glob{kind gen;}
target _{retry 0;kind bin;}`
	first := api.Target{Name: "kind", Kind: api.Test, Line: 5, Cost: 1000, Retry: 5,
		Srcs:    []api.Item{item("*.c", true, "", 8), item("glob", false, "", 8), item("?", true, "", 9), item("s", false, "srcs", 10), item("", false, "", 11), item("l", true, "linux", 12), item("m", false, "linux", 12)},
		Deps:    []api.Item{item(":x", false, "", 11), item(":y", false, "linux", 11), item(":z", false, "linux", 11), item(":t", false, "target", 12)},
		Outs:    []api.Item{item("o", false, "", 6), item("q", false, "", 7), item("r", false, "", 12)},
		Visible: []api.Item{item("public", false, "", 11), item("//a:b", false, "", 11), item("", false, "", 12)},
	}
	second, third, fourth := lib("target", 14), lib("glob", 14), lib("_", 15)
	third.Kind, fourth.Kind = api.Gen, api.Bin
	parses(t, source, api.Build{
		Platforms: []api.Item{{Text: "linux", Line: 2}, {Text: "target", Line: 3}, {Text: "platforms", Line: 4}},
		Targets:   []api.Target{first, second, third, fourth},
	}, 0, api.OK)
}

func TestP11_1KindsAndNames(t *testing.T) {
	for word, kind := range map[string]int{"lib": api.Lib, "bin": api.Bin, "test": api.Test, "gen": api.Gen} {
		want := lib(word, 1)
		want.Kind = kind
		parses(t, "target "+word+" { kind "+word+"; }", only(want), 0, api.OK)
	}
	for _, s := range vocabulary() {
		if isOfSort(s, "word") {
			parses(t, "target "+s+" {}", only(lib(s, 1)), 0, api.OK)
		} else {
			fails(t, "target "+s+" {}", 1, api.ErrSyntax)
		}
	}
}

// isOfSort tells whether a string as a whole is one token of a sort.
func isOfSort(s, sort string) bool {
	pieces := piecesOf(s)
	return len(pieces) == 2 && pieces[0].sort == sort && pieces[0].text == s
}

func TestP11_1SyntaxErrors(t *testing.T) {
	for s, line := range map[string]int{
		"x": 1, "\nx": 2, "lib {}": 1, ";": 1, "\"target\" a {}": 1, "1": 1, "Target a {}": 1,
		"platforms": 1, "platforms\n": 2, "platforms;": 1, "platforms a": 1, "platforms a # ;\n\n": 3, "platforms a b;": 1, "platforms a,;": 1, "platforms a\n,\n,\nb;": 3,
		"platforms glob;": 1, "platforms a,\nglob;": 2, "platforms \"a\";": 1, "platforms 1;": 1, "platforms a; platforms b;": 1, "platforms a;;": 1, "target a {}\nplatforms a;": 2, "platforms a;\nx": 2,
		"target": 1, "target\n\n": 3, "target {": 1, "target \"a\" {": 1, "target 1 {": 1, "target a": 1, "target a b {}": 1, "target a ;": 1, "target a\n{\n": 3, "target a {};": 1, "target a {}}": 1, "target a {\n{": 2, "target a { target b {} }": 1,
		within(";"): 1, within("a"): 1, within("\n\nname \"x\";"): 3, within("platforms a;"): 1, within("kind"): 1, within("\nkind;"): 2, within("kind a;"): 1, within("kind \"lib\";"): 1, within("kind\nLib;"): 2, within("kind lib"): 1, within("kind lib, bin;"): 1, within("kind lib;;"): 1, within("kind 1;"): 1, within("glob(\"x\");"): 1, within("\"kind\" lib;"): 1,
		within("srcs"): 1, within("srcs;"): 1, within("srcs \"a\""): 1, within("srcs \"a\",;"): 1, within("srcs \"a\" \"b\";"): 1, within("srcs ,\"a\";"): 1, within("srcs a;"): 1, within("srcs a b \"c\";"): 1, within("srcs a, \"c\";"): 1, within("srcs \"c\", a \"b\";"): 1, within("srcs \"c\"; a \"b\";"): 1, within("srcs 1 \"b\";"): 1, within("srcs \"p\" \"b\";"): 1,
		within("srcs glob;"): 1, within("srcs glob \"a\";"): 1, within("srcs glob(a);"): 1, within("srcs glob();"): 1, within("srcs glob(\"a\";"): 1, within("srcs glob(\"a\", \"b\");"): 1, within("srcs glob((\"a\"));"): 1, within("srcs glob glob(\"a\");"): 1, within("srcs (\"a\");"): 1, within("srcs a glob;"): 1, within("srcs \"a\", glob;"): 1, within("srcs Glob(\"a\");"): 1,
		within("deps;"): 1, within("deps a;"): 1, within("deps \"a\""): 1, within("deps \"a\" \"b\";"): 1, within("deps glob \"a\";"): 1, within("deps a glob(\"b\");"): 1, within("deps \"a\", glob(\"b\");"): 1, within("deps a b \"c\";"): 1,
		within("out;"): 1, within("out a \"b\";"): 1, within("out glob(\"b\");"): 1, within("out \"a\" \"b\";"): 1, within("out \"a\", a \"b\";"): 1, within("outs \"a\";"): 1, within("out 1;"): 1,
		within("visible;"): 1, within("visible a \"b\";"): 1, within("visible glob(\"b\");"): 1, within("visible a;"): 1, within("visible \"a\" \"b\";"): 1,
		within("cost;"): 1, within("cost a;"): 1, within("cost \"1\";"): 1, within("cost 1"): 1, within("cost 1, 2;"): 1, within("cost -1;"): 1, within("cost +1;"): 1, within("cost 1.0;"): 1, within("cost 1a;"): 1, within("cost 1 2;"): 1, within("cost linux 1;"): 1,
		within("retry;"): 1, within("retry a;"): 1, within("retry \"1\";"): 1, within("retry 1"): 1, within("retry -1;"): 1, within("retry 1 2;"): 1, within("retry .1;"): 1,
		within("srcs \"a;"): 1, within("srcs\n\n\"a\n\";"): 3, within("srcs 'a';"): 1, within("srcs \"a\"b\";"): 1,
	} {
		fails(t, s, line, api.ErrSyntax)
	}
}

// TestP11_1Twice declares things twice; and lets others stand twice, which may do so.
func TestP11_1Twice(t *testing.T) {
	for s, line := range map[string]int{
		"platforms a, a;": 1, "platforms a,\nb,\na\n,c;": 3, "platforms a,\nA,\na-,\na": 4,
		"target a {}\ntarget a {}": 2, "target a {}\ntarget b {}\ntarget\n\na": 5, "target a {}\ntarget a { kind x; }": 2,
		"target a {\nkind lib;\nkind\nbin; }": 3, "target a {\nkind lib;\nkind x": 3,
		"target a {\ncost 1;\n\ncost 1; }": 4, "target a {\ncost 1;\n\ncost 0": 4,
		"target a { kind test;\nretry 1;\nretry\n1; }": 3, "target a { kind test;\nretry 1; cost 1;\nretry": 3,
		"target a { kind lib; }\ntarget b { kind lib;\nsrcs \"a\"; kind lib; }": 3,
	} {
		fails(t, s, line, api.ErrTwice)
	}
	for _, s := range []string{
		"platforms a, b, A; target a {}", "target a {} target A {} target a. {}", "target a { kind lib; cost 2; retry 0; } target b { kind lib; cost 2; retry 0; }",
		within(`srcs "a", "a"; srcs "a"; srcs a "a"; deps "a", "a"; deps "a"; out "a", "a"; out "a"; visible "a", "a"; visible "a";`),
	} {
		if _, line, e := Parse(s); line != 0 || e != api.OK {
			t.Errorf("line %d, error %d of %q", line, e, s)
		}
	}
}

func TestP11_1Numbers(t *testing.T) {
	check := func(attribute, digits string, right bool, want api.Target) {
		t.Helper()
		s := "target a { kind test;\n" + attribute + "\n" + digits + "; }"
		if right {
			parses(t, s, only(want), 0, api.OK)
			return
		}
		fails(t, s, 3, api.ErrNumber)
		fails(t, s[:len(s)-len("; }")]+"x", 3, api.ErrNumber)
	}
	for n := range 20000 {
		for _, zeros := range []string{"", "0", "0000000000000000000000000"} {
			cost, retry := lib("a", 1), lib("a", 1)
			cost.Kind, retry.Kind = api.Test, api.Test
			cost.Cost, retry.Retry = n, n
			check("cost", zeros+strconv.Itoa(n), 1 <= n && n <= 1000, cost)
			check("retry", zeros+strconv.Itoa(n), n <= 5, retry)
		}
	}
	for _, digits := range []string{"4294967297", "2147483649", "9223372036854775807", "9223372036854775808", "18446744073709551615", "18446744073709551616", "18446744073709551617", "36893488147419103233", strings.Repeat("1", 1000), "1" + strings.Repeat("0", 1000)} {
		check("cost", digits, false, api.Target{})
		check("retry", digits, false, api.Target{})
	}
	want := lib("a", 1)
	want.Kind, want.Cost, want.Retry = api.Test, 7, 3
	check("cost", strings.Repeat("0", 100000)+"7; retry 3", true, want)
}

func TestP11_1RetryOfOthersThanTests(t *testing.T) {
	for s, line := range map[string]int{
		"target a {\nretry\n1\n;\n}": 3, "target a {\nkind bin;\nretry 5; }": 3, "target a {\nretry 2;\nkind gen;\n}\nx": 2, "target a {\nretry 00001; kind lib; }": 2,
		"target a { kind test; retry 1; }\ntarget b {\nretry 1; }": 3,
	} {
		fails(t, s, line, api.ErrNumber)
	}
	for s, e := range map[string]api.Errno{
		"target a { retry 1; kind test; }":       api.OK,
		"target a { retry 0; }":                  api.OK,
		"target a { retry 000; kind bin; }":      api.OK,
		"target a { retry 1;\nkind kind; }":      api.ErrSyntax,
		"target a { retry 1;\n":                  api.ErrSyntax,
		"target a { retry 1;\nretry 1; }":        api.ErrTwice,
		"target a { retry 1; kind lib;\ncost 0;": api.ErrNumber,
	} {
		line := 2
		if e == api.OK {
			line = 0
		}
		if _, got, gotE := Parse(s); got != line || gotE != e {
			t.Errorf("line %d, error %d of %q; want %d, %d", got, gotE, s, line, e)
		}
	}
}

// TestP11_1FirstError has several errors, of which the one at the first token counts, even if the one of another kind is mentioned before it.
func TestP11_1FirstError(t *testing.T) {
	for s, e := range map[string]api.Errno{
		"platforms a,\na\n@":                          api.ErrTwice,
		"platforms a,\n@,\na":                         api.ErrSyntax,
		"target a { cost\n0\n@":                       api.ErrNumber,
		"target a { cost\n@ 0":                        api.ErrSyntax,
		"target a {\ncost 0;\ncost 0":                 api.ErrNumber,
		"target a { cost 1;\ncost 0":                  api.ErrTwice,
		"target a { kind test;\nretry 6;\nretry 1; }": api.ErrNumber,
		"target a {}\ntarget a @":                     api.ErrTwice,
		"target a {}\ntarget @ a":                     api.ErrSyntax,
		"target a { kind lib;\nkind lib @":            api.ErrTwice,
		"target a {\nretry 1; }\ntarget a {}":         api.ErrNumber,
	} {
		fails(t, s, 2, e)
	}
}

// TestP11_1EachByte tries each byte where a token begins, within words, numbers, strings and comments, and behind them.
func TestP11_1EachByte(t *testing.T) {
	for c := range 256 {
		b := string([]byte{byte(c)})
		for _, s := range []string{b, "platforms " + b + ";", "platforms a" + b + ";", "platforms a" + b + "b;", "target a" + b + "a {}", within(b), within("cost 1" + b + ";"), within("cost " + b + "1;"), within("cost" + b + "1;"),
			within("srcs " + b + "\"x\";"), within("srcs \"" + b + "\";"), within("srcs \"x" + b + "y\";"), within("srcs \"x\"" + b + ";"), within("srcs \"" + b), "#" + b, "#" + b + "\n@", "# \"" + b + "@", "platforms a;" + b, within(";") + b, within("") + b} {
			parsesByWords(t, s)
		}
	}
}

// TestP11_1ShortSources tries all short strings of bytes that mean something, in several places.
func TestP11_1ShortSources(t *testing.T) {
	for _, part := range samples.Strings("a1-\"# \n,;", 5) {
		for _, s := range []string{part, "platforms a" + part, within("srcs " + part), within("cost " + part + ";")} {
			parsesByWords(t, s)
		}
	}
}

// TestP11_1EachTokenAtEachPlace goes through sources, and tries each token of the vocabulary behind each beginning.
func TestP11_1EachTokenAtEachPlace(t *testing.T) {
	for seed := range uint32(16) {
		below := samples.Below(seed)
		tokens := randomTokens(30, below)
		for n := range len(tokens) + 1 {
			start := randomlySeparated(tokens[:n], below)
			for _, next := range vocabulary() {
				parsesByWords(t, start+" "+next)
				parsesByWords(t, start+"\n"+next+" ;")
			}
		}
	}
}

func TestP11_1RandomSources(t *testing.T) {
	right := 0
	for seed := range uint32(4000) {
		below := samples.Below(seed)
		tokens := randomTokens(below(60), below)
		if seed%2 == 0 {
			tokens = changedTokens(tokens, below)
		}
		s := randomlySeparated(tokens, below)
		parsesByWords(t, s)
		if _, _, e := Parse(s); e == api.OK && len(tokens) > 10 {
			right++
		}
	}
	if right < 300 {
		t.Errorf("only %d sources without errors", right)
	}
}

// TestP11_1ResultsAreNew changes a build: the others, and the other lists of the same one, stay as they are.
func TestP11_1ResultsAreNew(t *testing.T) {
	const source = `platforms a, b, c; target a { srcs "a", "b", "c"; srcs "d"; out "o"; deps "d"; visible "v"; } target b { srcs "x"; out "y"; deps "z"; visible "w"; }`
	b, _, _ := Parse(source)
	again, _, _ := Parse(source)
	changed := 0
	lists := func(b *api.Build) []*[]api.Item {
		l := []*[]api.Item{&b.Platforms}
		for n := range b.Targets {
			t := &b.Targets[n]
			l = append(l, &t.Srcs, &t.Deps, &t.Outs, &t.Visible)
		}
		return l
	}
	for n, l := range lists(&b) {
		for at := range *l {
			(*l)[at].Text = "changed"
			changed++
		}
		*l = append(*l, api.Item{Text: "more"}, api.Item{Text: "more"})
		for _, other := range lists(&b)[n+1:] {
			if slices.ContainsFunc(*other, func(i api.Item) bool { return i.Text == "changed" || i.Text == "more" }) {
				t.Errorf("%v has changed", *other)
			}
		}
	}
	if want, _, _ := parseByWords(source); !same(again, want) || changed != 14 {
		t.Errorf("%+v, %d changes", again, changed)
	}
}

func TestP11_2Examples(t *testing.T) {
	b, _, _ := Parse(`target a { srcs "x.go", glob("*.c"); deps linux "//b:c"; }`)
	const want = "target a {\n  kind lib;\n  srcs \"x.go\", glob(\"*.c\");\n  deps linux \"//b:c\";\n}\n"
	if got := Print(b); got != want {
		t.Errorf("%s; want %s", got, want)
	}
	if got := Print(api.Build{}); got != "" {
		t.Errorf("%q of no targets", got)
	}
}

func TestP11_2AllLines(t *testing.T) {
	b := api.Build{
		Platforms: []api.Item{{Text: "linux"}, {Text: "target", Line: -3}},
		Targets: []api.Target{
			{Name: "kind", Kind: api.Test, Cost: 1000, Retry: 5,
				Srcs:    []api.Item{item("a", false, "", 9), item("*", true, "", 8), item("b", true, "x", 7), item("c", false, "x", 6), item("d", false, "y", 5), item("e", false, "", 4), item("f", false, "x", 3)},
				Deps:    []api.Item{item("a", false, "x", 0), item("b", false, "", 0), item("c", false, "", 0), item("# \xff\r\t", false, "x", 0)},
				Outs:    []api.Item{item("", false, "", 0), item("o", false, "", 1), item("p", false, "", 2)},
				Visible: []api.Item{item("public", false, "", 1), item("//a", false, "", 1)}},
			{Name: "b", Kind: api.Bin, Cost: 2},
			{Name: "g", Kind: api.Gen, Cost: 1, Outs: []api.Item{{Text: "x"}}},
			lib("_", 0),
			{Name: "t", Kind: api.Test, Cost: 1, Retry: 1},
		},
	}
	const want = `platforms linux, target;
target kind {
  kind test;
  srcs "a", glob("*");
  srcs x glob("b"), "c";
  srcs y "d";
  srcs "e";
  srcs x "f";
  deps x "a";
  deps "b", "c";
  deps x "# ` + "\xff\r\t" + `";
  out "", "o", "p";
  visible "public", "//a";
  cost 1000;
  retry 5;
}
target b {
  kind bin;
  cost 2;
}
target g {
  kind gen;
  out "x";
}
target _ {
  kind lib;
}
target t {
  kind test;
  retry 1;
}
`
	if got := Print(b); got != want {
		t.Errorf("%s\nwant\n%s", got, want)
	}
}

func TestP11_2OnlyPlatforms(t *testing.T) {
	if got := Print(api.Build{Platforms: []api.Item{{Text: "a"}}}); got != "platforms a;\n" {
		t.Errorf("%q", got)
	}
}

// wellFormed returns a build with something in all fields.
func wellFormed() api.Build {
	return api.Build{
		Platforms: []api.Item{{Text: "linux"}, {Text: "arm"}},
		Targets: []api.Target{
			{Name: "a", Kind: api.Test, Cost: 3, Retry: 2, Srcs: []api.Item{{Text: "x", Platform: "p", Glob: true}}, Deps: []api.Item{{Text: "y", Platform: "q"}}, Outs: []api.Item{{Text: "o"}}, Visible: []api.Item{{Text: "v"}}},
			{Name: "b", Kind: api.Lib, Cost: 1},
		},
	}
}

// faults returns the ways in which a build can be not well-formed, each with what makes it of the well-formed one.
func faults() map[string]func(b *api.Build) {
	f := map[string]func(b *api.Build){
		"a platform twice":          func(b *api.Build) { b.Platforms[1].Text = "linux" },
		"a platform glob":           func(b *api.Build) { b.Platforms[1].Text = "glob" },
		"a platform for a platform": func(b *api.Build) { b.Platforms[0].Platform = "arm" },
		"a glob of platforms":       func(b *api.Build) { b.Platforms[0].Glob = true },
		"a target twice":            func(b *api.Build) { b.Targets[1].Name = "a" },
		"a target more":             func(b *api.Build) { b.Targets = append(b.Targets, lib("b", 1)) },
		"an empty target":           func(b *api.Build) { b.Targets[1] = api.Target{} },
		"a retry of a lib":          func(b *api.Build) { b.Targets[1].Retry = 1 },
		"sources for glob":          func(b *api.Build) { b.Targets[0].Srcs[0].Platform = "glob" },
		"dependencies for glob":     func(b *api.Build) { b.Targets[0].Deps[0].Platform = "glob" },
		"a glob of dependencies":    func(b *api.Build) { b.Targets[0].Deps[0].Glob = true },
		"a glob of outputs":         func(b *api.Build) { b.Targets[0].Outs[0].Glob = true },
		"a glob of the visible":     func(b *api.Build) { b.Targets[0].Visible[0].Glob = true },
		"outputs for a platform":    func(b *api.Build) { b.Targets[0].Outs[0].Platform = "linux" },
		"visible for a platform":    func(b *api.Build) { b.Targets[0].Visible[0].Platform = "linux" },
	}
	for _, kind := range []int{0, 5, -1, 1<<32 + 1} {
		f["kind "+strconv.Itoa(kind)] = func(b *api.Build) { b.Targets[1].Kind = kind }
	}
	for _, kind := range []int{api.Lib, api.Bin, api.Gen} {
		f["a retry of kind "+strconv.Itoa(kind)] = func(b *api.Build) { b.Targets[0].Kind = kind }
	}
	for _, cost := range []int{0, -1, 1001, 1<<32 + 1, -1 << 63} {
		f["cost "+strconv.Itoa(cost)] = func(b *api.Build) { b.Targets[0].Cost = cost }
	}
	for _, retry := range []int{-1, 6, 1<<32 + 1, -1 << 63} {
		f["retry "+strconv.Itoa(retry)] = func(b *api.Build) { b.Targets[0].Retry = retry }
	}
	for _, s := range []string{"1", "1a", "-a", ".a", "a b", " a", "a ", "a\n", "a#", "a{", "a;", "\"a\"", "a\x00", "é", "aé", "\xff", "a/b", "//a", "a:b", "*"} {
		f["the platform "+s] = func(b *api.Build) { b.Platforms[0].Text = s }
		f["the target "+s] = func(b *api.Build) { b.Targets[0].Name = s }
		f["sources for "+s] = func(b *api.Build) { b.Targets[0].Srcs[0].Platform = s }
		f["dependencies for "+s] = func(b *api.Build) { b.Targets[0].Deps[0].Platform = s }
	}
	f["the platform without a name"] = func(b *api.Build) { b.Platforms[0].Text = "" }
	f["the target without a name"] = func(b *api.Build) { b.Targets[0].Name = "" }
	for _, s := range []string{"\"", "\n", "a\"", "\"a", "a\nb", "\"; srcs \"", "\r\n"} {
		f["the source "+s] = func(b *api.Build) { b.Targets[0].Srcs[0].Text = s }
		f["the dependency "+s] = func(b *api.Build) { b.Targets[0].Deps[0].Text = s }
		f["the output "+s] = func(b *api.Build) { b.Targets[0].Outs[0].Text = s }
		f["the visible "+s] = func(b *api.Build) { b.Targets[0].Visible[0].Text = s }
	}
	return f
}

func TestP11_2NothingForOtherBuilds(t *testing.T) {
	for name, spoil := range faults() {
		b := wellFormed()
		if Print(b) == "" {
			t.Fatal("nothing for a well-formed build")
		}
		spoil(&b)
		if got := Print(b); got != "" {
			t.Errorf("%s: %q", name, got)
		}
	}
}

func TestP11_3EachFault(t *testing.T) {
	for name, spoil := range faults() {
		b := wellFormed()
		if !Right(b) {
			t.Fatal("a well-formed build is not")
		}
		spoil(&b)
		if Right(b) || rightByWords(b) {
			t.Errorf("well-formed: %s", name)
		}
	}
}

func TestP11_3WellFormed(t *testing.T) {
	x := item("x", false, "", 0)
	for name, change := range map[string]func(b *api.Build){
		"nothing":                  func(b *api.Build) { *b = api.Build{} },
		"empty lists":              func(b *api.Build) { *b = api.Build{Platforms: []api.Item{}, Targets: []api.Target{}} },
		"no platforms":             func(b *api.Build) { b.Platforms = nil },
		"no targets":               func(b *api.Build) { b.Targets = nil },
		"platforms by other words": func(b *api.Build) { b.Platforms[0].Text, b.Platforms[1].Text = "platforms", "Glob" },
		"the target glob":          func(b *api.Build) { b.Targets[0].Name, b.Targets[1].Name = "glob", "target" },
		"a platform and a target":  func(b *api.Build) { b.Platforms[0].Text = "a" },
		"long names":               func(b *api.Build) { b.Targets[0].Name = strings.Repeat("a-.9_Z", 50000) },
		"platforms not declared":   func(b *api.Build) { b.Platforms, b.Targets[0].Srcs[0].Platform = nil, "lib" },
		"empty texts":              func(b *api.Build) { b.Targets[0].Srcs[0].Text, b.Targets[0].Deps[0].Text = "", "" },
		"empty texts of outputs":   func(b *api.Build) { b.Targets[0].Outs[0].Text, b.Targets[0].Visible[0].Text = "", "" },
		"any other bytes":          func(b *api.Build) { b.Targets[0].Srcs[0].Text = "#\x00\r\t\\\xff{};" },
		"the same items": func(b *api.Build) {
			b.Targets[1].Srcs = []api.Item{x, x}
			b.Targets[1].Outs = []api.Item{x, x}
		},
		"outputs of what is no gen": func(b *api.Build) { b.Targets[1].Outs = []api.Item{x} },
		"the least numbers":         func(b *api.Build) { b.Targets[0].Cost, b.Targets[0].Retry = 1, 0 },
		"the greatest numbers":      func(b *api.Build) { b.Targets[0].Cost, b.Targets[0].Retry = 1000, 5 },
		"a gen":                     func(b *api.Build) { b.Targets[1].Kind = api.Gen },
		"a bin":                     func(b *api.Build) { b.Targets[1].Kind = api.Bin },
		"lines that are all one":    func(b *api.Build) { *b = onLine(*b, 1) },
		"lines that are not there":  func(b *api.Build) { *b = onLine(*b, -1<<63) },
		"lines from the end back":   func(b *api.Build) { b.Targets[0].Line, b.Targets[1].Line, b.Platforms[0].Line = 9, 8, 10 },
		"lines beyond every source": func(b *api.Build) { *b = onLine(*b, 1<<63-1) },
		"platforms that alternate": func(b *api.Build) {
			b.Targets[1].Srcs = []api.Item{x, {Text: "x", Platform: "p"}, x, {Text: "x", Platform: "q"}}
		},
		"globs between other things": func(b *api.Build) { b.Targets[1].Srcs = []api.Item{x, {Text: "x", Glob: true}, x} },
	} {
		b := wellFormed()
		change(&b)
		if !Right(b) || !rightByWords(b) {
			t.Errorf("not well-formed: %s", name)
		}
		printsByWords(t, b)
	}
}

// TestP11_3RandomBuilds checks Right and Print (P11.2) of builds of which some are well-formed, and some are not so in a few fields.
func TestP11_3RandomBuilds(t *testing.T) {
	many := map[bool]int{}
	for seed := range uint32(6000) {
		b := randomBuild(60, samples.Below(seed))
		printsByWords(t, b)
		many[Right(b)]++
	}
	if many[true] < 1000 || many[false] < 1000 {
		t.Errorf("%d well-formed builds, and %d others", many[true], many[false])
	}
}

// TestP11_3BuildsOfSources has a source of each build.
func TestP11_3BuildsOfSources(t *testing.T) {
	for seed := range uint32(1000) {
		below := samples.Below(seed)
		b, _, e := Parse(randomlySeparated(randomSourceTokens(below(60), below), below))
		if e != api.OK || !Right(b) || !Right(onLine(b, below(3)-1)) {
			t.Fatalf("error %d, or not well-formed: %+v", e, b)
		}
		printsByWords(t, b)
	}
}

// TestP11_3ArgumentsStayAsTheyAre checks that neither Right nor Print changes a build (R3).
func TestP11_3ArgumentsStayAsTheyAre(t *testing.T) {
	for seed := range uint32(500) {
		b, before := randomBuild(100, samples.Below(seed)), randomBuild(100, samples.Below(seed))
		Right(b)
		Print(b)
		if !same(b, before) {
			t.Fatalf("%+v; want %+v", b, before)
		}
	}
}

// TestP11_4ParseOfPrint gets builds back: those of sources, and others that are well-formed.
func TestP11_4ParseOfPrint(t *testing.T) {
	for seed := range uint32(4000) {
		below := samples.Below(seed)
		b := randomBuild(10000, below)
		if seed%2 == 0 {
			b, _, _ = Parse(randomlySeparated(randomSourceTokens(below(80), below), below))
		}
		if !Right(b) {
			continue
		}
		again, line, e := Parse(Print(b))
		if line != 0 || e != api.OK || !alike(again, b) {
			t.Fatalf("line %d, error %d of\n%s", line, e, Print(b))
		}
		if Print(again) != Print(b) {
			t.Fatalf("%q; want %q", Print(again), Print(b))
		}
	}
}

// TestP11_4OtherBlanks puts other blanks and comments between the same tokens, also of sources with errors: the build, the error, and the token at which it is are the same.
func TestP11_4OtherBlanks(t *testing.T) {
	for seed := range uint32(3000) {
		below := samples.Below(seed)
		tokens := randomTokens(below(40), below)
		if seed%3 == 0 {
			tokens = changedTokens(tokens, below)
		}
		tokens = slices.DeleteFunc(tokens, func(s string) bool { return s == "" || s == "\"" }) // what is behind these depends on the blanks
		s, other := strings.Join(tokens, "\n"), randomlySeparated(tokens, below)
		b, line, e := Parse(s)
		otherB, otherLine, otherE := Parse(other)
		if e != otherE || !alike(b, otherB) {
			t.Fatalf("error %d of %q, %d of %q", e, s, otherE, other)
		}
		if e != api.OK && piecesOf(other)[line-1].line != otherLine { // s has one token in each line
			t.Fatalf("line %d of %q, %d of %q", line, s, otherLine, other)
		}
	}
}

// attributesOf returns the attributes of a target by their words, in the order of their words, as they are in a source.
func attributesOf(below func(int) int) map[string][]string {
	l := map[string][]string{}
	for range below(8) {
		switch below(4) {
		case 0:
			l["srcs"] = append(l["srcs"], []string{`srcs "a";`, `srcs linux "b", glob("c");`, `srcs glob("d"), "e";`, `srcs arm "f";`}[below(4)])
		case 1:
			l["deps"] = append(l["deps"], []string{`deps "a";`, `deps linux "b", "c";`, `deps arm "d";`}[below(3)])
		case 2:
			l["out"] = append(l["out"], []string{`out "a";`, `out "b", "c";`}[below(2)])
		case 3:
			l["visible"] = append(l["visible"], []string{`visible "a";`, `visible "b", "c";`}[below(2)])
		}
	}
	if kind := []string{"lib", "bin", "gen", "test", "test"}[below(5)]; kind == "test" {
		l["kind"], l["retry"] = []string{"kind test;"}, []string{"retry " + strconv.Itoa(below(6)) + ";"}
	} else if below(2) == 0 {
		l["kind"] = []string{"kind " + kind + ";"}
	}
	if below(2) == 0 {
		l["cost"] = []string{"cost " + strconv.Itoa(1+below(1000)) + ";"}
	}
	return l
}

// mixed returns the attributes as one source, those of the same word in their order, the others in any.
func mixed(attributes map[string][]string, below func(int) int) string {
	left := maps.Clone(attributes)
	s := ""
	for len(left) > 0 {
		words := slices.Sorted(maps.Keys(left))
		word := words[below(len(words))]
		s += left[word][0] + "\n"
		if left[word] = left[word][1:]; len(left[word]) == 0 {
			delete(left, word)
		}
	}
	return s
}

func TestP11_4OtherOrderOfAttributes(t *testing.T) {
	for seed := range uint32(500) {
		below := samples.Below(seed)
		attributes := attributesOf(below)
		want, _, wantE := Parse(within(mixed(attributes, below)))
		if wantE != api.OK {
			t.Fatalf("error %d of %q", wantE, attributes)
		}
		for range 10 {
			s := within(mixed(attributes, below))
			if b, line, e := Parse(s); line != 0 || e != api.OK || !alike(b, want) {
				t.Fatalf("line %d, error %d of %s: %+v; want %+v", line, e, s, b, want)
			}
		}
	}
}

func TestP1CallsEndForAllArguments(t *testing.T) {
	for seed := range uint32(3000) {
		below := samples.Below(seed)
		Parse(samples.Words(seed, "\x00\n\r\t \"#{}(),;aZ_09-.\xff\x80")(60))
		Parse(randomlySeparated(changedTokens(changedTokens(vocabulary(), below), below), below))
		b := randomBuild(2, below)
		Right(b)
		Print(b)
	}
}

// TestP1LongSources would take minutes if a call took more time than for each byte.
func TestP1LongSources(t *testing.T) {
	const many = 300000
	var targets, platforms strings.Builder
	for n := range many {
		targets.WriteString("target t" + strconv.Itoa(n) + " { srcs \"a\"; }\n")
		platforms.WriteString("p" + strconv.Itoa(n) + ", ")
	}
	for s, want := range map[string]api.Errno{
		targets.String():                                            api.OK,
		targets.String() + "target t299999 {}":                      api.ErrTwice,
		"platforms " + platforms.String() + "p;":                    api.OK,
		"platforms " + platforms.String() + "p1;":                   api.ErrTwice,
		within(strings.Repeat("srcs \"a\"; deps a \"b\";", many)):   api.OK,
		within("srcs " + strings.Repeat("\"a\", ", many) + "\"\";"): api.OK,
		strings.Repeat("\n# \"\n", many):                            api.OK,
		strings.Repeat("\"", many):                                  api.ErrSyntax,
		strings.Repeat("{", many):                                   api.ErrSyntax,
		within("srcs " + strings.Repeat("glob(", many)):             api.ErrSyntax,
		within("cost " + strings.Repeat("9", many*10) + ";"):        api.ErrNumber,
		within("srcs \"" + strings.Repeat("x", many*10) + "\";"):    api.OK,
		within("srcs \"" + strings.Repeat("x", many*10)):            api.ErrSyntax,
	} {
		b, _, e := Parse(s)
		if e != want {
			t.Fatalf("error %d of %.50q; want %d", e, s, want)
		}
		if again, _, e := Parse(Print(b)); e != api.OK || !alike(again, b) {
			t.Fatalf("Parse of Print differs, error %d, of %.50q", e, s)
		}
	}
}

func TestP1LinesOfLongSources(t *testing.T) {
	const many = 1000000
	s := strings.Repeat("\r\n", many) + "target a {" + strings.Repeat("# }\n", many) + "cost\n"
	parses(t, s+"7;}", only(api.Target{Name: "a", Kind: api.Lib, Line: many + 1, Cost: 7}), 0, api.OK)
	fails(t, s+";", 2*many+2, api.ErrSyntax)
	fails(t, s+"7\n", 2*many+3, api.ErrSyntax)
}
