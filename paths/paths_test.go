package paths

import (
	"slices"
	"strings"
	"testing"

	"mainline/samples"
)

const nameBytes = "abcdefghijklmnopqrstuvwxyzABCDEFGHIJKLMNOPQRSTUVWXYZ0123456789_.-"

// repeated returns n components that are all the same, joined.
func repeated(component string, n int) string {
	return strings.Join(slices.Repeat([]string{component}, n), "/")
}

// strange returns strings that are neither paths nor patterns.
func strange() []string {
	return []string{
		"", "/", "//", "/a", "a/", "a//b", ".", "..", "a/.", "../a", "a/./b", "a/../b", "a b", "a\x00", "\n",
		"a\\b", "a,b", "a:b", "@a", "[a]", "`", "{a}", "a\x80", "\xff", "\x80/\xff", "ä", "a/ä/b", "\u2215", "\ufffd",
		"***", "a**", "**a", "a/b**", "*?**",
		repeated("a", 21), repeated("", 22), strings.Repeat("a", 201), "a/" + strings.Repeat("b", 199),
		strings.Repeat("/", 300), strings.Repeat("*", 300), strings.Repeat("**/", 100),
	}
}

// componentsByWords, and the functions below, follow the chapter's words.
func componentsByWords(s string) []string {
	if s == "" {
		return nil
	}
	return strings.Split(s, "/")
}

func consistsByWords(s, permitted string) bool {
	for i := range len(s) {
		if strings.IndexByte(permitted, s[i]) < 0 {
			return false
		}
	}
	return len(s) > 0
}

func validByWords(p string) bool {
	components := componentsByWords(p)
	for _, c := range components {
		if !consistsByWords(c, nameBytes) || c == "." || c == ".." {
			return false
		}
	}
	return 1 <= len(components) && len(components) <= 20 && len(p) <= 200
}

func patternByWords(s string) bool {
	components := componentsByWords(s)
	for _, c := range components {
		proper := consistsByWords(c, nameBytes+"*?") && c != "." && c != ".." && !strings.Contains(c, "**")
		if c != "**" && !proper {
			return false
		}
	}
	return 1 <= len(components) && len(components) <= 20 && len(s) <= 200
}

func underByWords(p, dir string) bool {
	c, d := componentsByWords(p), componentsByWords(dir)
	return len(c) >= len(d) && slices.Equal(c[:len(d)], d)
}

func lessByWords(a, b string) bool {
	return slices.CompareFunc(componentsByWords(a), componentsByWords(b), strings.Compare) < 0
}

// dividedByWords tells whether the components of a path can be divided among those of a pattern.
func dividedByWords(pattern, path []string) bool {
	if len(pattern) == 0 {
		return len(path) == 0
	}
	if pattern[0] != "**" {
		return len(path) > 0 && nameMatchedByWords(pattern[0], path[0]) && dividedByWords(pattern[1:], path[1:])
	}
	for n := range len(path) + 1 {
		if dividedByWords(pattern[1:], path[n:]) {
			return true
		}
	}
	return false
}

// nameMatchedByWords tells whether the bytes of a name can be divided among those of a component of a pattern.
func nameMatchedByWords(component, name string) bool {
	if component == "" {
		return name == ""
	}
	if component[0] != '*' {
		return name != "" && (component[0] == '?' || component[0] == name[0]) && nameMatchedByWords(component[1:], name[1:])
	}
	for n := range len(name) + 1 {
		if nameMatchedByWords(component[1:], name[n:]) {
			return true
		}
	}
	return false
}

func matchByWords(pattern, path string) bool {
	return patternByWords(pattern) && validByWords(path) && dividedByWords(componentsByWords(pattern), componentsByWords(path))
}

func TestP3_1ValidOfKnownStrings(t *testing.T) {
	for p, want := range map[string]bool{
		"a/b.c": true, "a//b": false, "a/..": false, // the examples
		"a": true, "Z": true, "0": true, "9": true, "_": true, "-": true, "a/b/c": true, "README.md": true,
		"...": true, "..a": true, "a..": true, ".a": true, "a.": true, "-.": true, "._": true, "a/.../b": true, ".a/.b": true, "....": true,
		"": false, "/": false, "//": false, "/a": false, "a/": false, "a/b/": false, "//a": false, "a//": false,
		".": false, "..": false, "./a": false, "../a": false, "a/.": false, "a/./b": false, "a/../b": false,
		"a b": false, " a": false, "a ": false, "a\n": false, "\x00": false, "a\\b": false, "a:b": false, "a+b": false, "a,b": false, "~": false,
		"*": false, "?": false, "a*": false, "a?": false, "**": false, "a/**": false,
		"\x80": false, "a\xff": false, "\xe1": false, "ä": false, "a/é": false,
	} {
		if Valid(p) != want {
			t.Errorf("Valid(%q): %v", p, !want)
		}
	}
}

func TestP3_1ValidOfEveryByte(t *testing.T) {
	for i := range 256 {
		b := string([]byte{byte(i)})
		want := strings.Contains(nameBytes, b)
		for _, p := range []string{"x" + b, b + "x", "x" + b + "x", "a/x" + b, b + "x/a"} {
			if b != "/" && Valid(p) != want {
				t.Errorf("Valid(%q): %v", p, !want)
			}
		}
		if b != "." && Valid(b) != want {
			t.Errorf("Valid(%q): %v", b, !want)
		}
	}
}

// limitCases returns strings of at most 20 components and 200 bytes, and others that have just one too many, made of a component of one byte.
func limitCases(c string) map[string]bool {
	long := strings.Repeat(c, 9)
	return map[string]bool{
		repeated(c, 20):                    true,
		repeated(c, 21):                    false,
		repeated(c, 22):                    false,
		repeated(c, 20) + "/":              false,
		repeated(c, 19) + "/":              false,
		strings.Repeat(c, 199):             true,
		strings.Repeat(c, 200):             true,
		strings.Repeat(c, 201):             false,
		strings.Repeat(c, 100000):          false,
		"a/" + strings.Repeat(c, 198):      true,
		"a/" + strings.Repeat(c, 199):      false,
		repeated(long, 20):                 true, // 199 bytes
		c + repeated(long, 20):             true,
		repeated(long, 20) + c:             true,
		c + repeated(long, 20) + c:         false,
		repeated(long, 19) + "/" + c + "/": false,
		repeated(c, 100):                   false,
	}
}

func TestP3_1LimitsOfPaths(t *testing.T) {
	for _, c := range []string{"a", "_", "-", "7"} {
		for p, want := range limitCases(c) {
			if Valid(p) != want {
				t.Errorf("Valid of %d bytes, %d components of %s: %v", len(p), len(componentsByWords(p)), c, !want)
			}
		}
	}
}

func TestP3_1ValidOfAllShortStrings(t *testing.T) {
	for _, p := range append(samples.Strings("a./", 8), samples.Strings("Z.*/ \xe9", 5)...) {
		if want := validByWords(p); Valid(p) != want {
			t.Fatalf("Valid(%q): %v", p, !want)
		}
	}
}

func TestP3_1ValidOfLongerStrings(t *testing.T) {
	word := samples.Words(1, "aaaaaaaa/")
	for range 20000 {
		p := word(210)
		if want := validByWords(p); Valid(p) != want {
			t.Fatalf("Valid(%q): %v", p, !want)
		}
	}
}

func TestP3_2PartsDirAndBaseOfKnownStrings(t *testing.T) {
	for _, c := range []struct {
		p         string
		parts     []string
		dir, base string
	}{
		{"a/b/c", []string{"a", "b", "c"}, "a/b", "c"}, // the example
		{"", nil, "", ""},
		{"a", []string{"a"}, "", "a"},
		{"ab.c", []string{"ab.c"}, "", "ab.c"},
		{"a/b", []string{"a", "b"}, "a", "b"},
		{"a//b", []string{"a", "", "b"}, "a/", "b"},
		{"/", []string{"", ""}, "", ""},
		{"//", []string{"", "", ""}, "/", ""},
		{"///", []string{"", "", "", ""}, "//", ""},
		{"/a", []string{"", "a"}, "", "a"},
		{"a/", []string{"a", ""}, "a", ""},
		{"/a/", []string{"", "a", ""}, "/a", ""},
		{"//a", []string{"", "", "a"}, "/", "a"},
		{"a//", []string{"a", "", ""}, "a/", ""},
		{"./..", []string{".", ".."}, ".", ".."},
		{"*/a**", []string{"*", "a**"}, "*", "a**"},
		{"a b/\xff/\x80", []string{"a b", "\xff", "\x80"}, "a b/\xff", "\x80"},
		{"ä/\u2215", []string{"ä", "\u2215"}, "ä", "\u2215"},
	} {
		if parts := Parts(c.p); !slices.Equal(parts, c.parts) {
			t.Errorf("Parts(%q): %q", c.p, parts)
		}
		if dir := Dir(c.p); dir != c.dir {
			t.Errorf("Dir(%q): %q", c.p, dir)
		}
		if base := Base(c.p); base != c.base {
			t.Errorf("Base(%q): %q", c.p, base)
		}
	}
}

// checkParts checks Parts, Dir and Base of p.
func checkParts(t *testing.T, p string) {
	t.Helper()
	want := componentsByWords(p)
	if parts := Parts(p); !slices.Equal(parts, want) {
		t.Fatalf("Parts of %d bytes, %.40q: %d parts, not %d", len(p), p, len(parts), len(want))
	}
	dir, base := "", ""
	if n := len(want); n > 0 {
		dir, base = strings.Join(want[:n-1], "/"), want[n-1]
	}
	if Dir(p) != dir || Base(p) != base {
		t.Fatalf("Dir and Base of %d bytes, %.40q: %.40q, %.40q", len(p), p, Dir(p), Base(p))
	}
}

func TestP3_2PartsDirAndBaseOfAllShortStrings(t *testing.T) {
	for _, p := range append(samples.Strings("a/", 10), samples.Strings("a./ *\xff", 5)...) {
		checkParts(t, p)
	}
}

func TestP3_2PartsDirAndBaseBeyondTheLimits(t *testing.T) {
	for _, p := range []string{
		repeated("a", 20), repeated("a", 21), repeated("ab", 5000), strings.Repeat("x", 200), strings.Repeat("x", 201),
		strings.Repeat("/", 10000), strings.Repeat("\xff", 10000), strings.Repeat("x", 10000) + "/" + strings.Repeat("y", 10000),
	} {
		checkParts(t, p)
	}
}

func TestP3_2PartsReturnsNewMemory(t *testing.T) {
	p := "a/b/c"
	parts := Parts(p)
	for i := range parts {
		parts[i] = "x"
	}
	_ = append(parts[:1], "y")
	checkParts(t, p)
}

func TestP3_3UnderOfKnownStrings(t *testing.T) {
	for _, c := range []struct {
		p, dir string
		want   bool
	}{
		{"a/b", "a", true}, {"a/b/c", "a", true}, {"a/b/c", "a/b", true}, {"a/b/c", "a/c", false}, {"a/b/c", "b", false}, {"a/b", "b", false},
		{"a", "a", true}, {"a/b", "a/b", true}, {"", "", true}, // itself
		{"a", "", true}, {"a/b", "", true}, {"/", "", true}, {"/a", "", true}, {"\xff", "", true}, // under the empty string
		{"a", "a/b", false}, {"", "a", false}, {"", "/", false},
		{"ab", "a", false}, {"ab/c", "a", false}, {"a-b", "a", false}, {"a.b/c", "a", false}, {"a", "ab", false}, {"a0", "a", false}, // one is the beginning of the other
		{"a/bc", "a/b", false}, {"a/b", "a/bc", false}, {"ab/c", "a/c", false},
		{"/", "/", true}, {"//", "/", true}, {"/a", "/", false}, {"//a", "/", true}, {"a", "/", false}, {"/a/b", "/a", true}, {"/a", "//", false},
		{"a/", "a", true}, {"a/", "a/", true}, {"a", "a/", false}, {"a/b", "a/", false}, {"a//b", "a/", true}, {"a//b", "a", true}, {"a//", "a/", true},
		{"A/b", "a", false}, {"./a", ".", true}, {"../a", "..", true}, {"../a", ".", false}, {"./a", "", true}, {"a/.", "a/b", false},
		{"*/a", "*", true}, {"a/b", "*", false}, {"a/b", "**", false}, {"\xff/\x80", "\xff", true}, {"\xff\x80", "\xff", false}, {"ä/b", "ä", true},
	} {
		if Under(c.p, c.dir) != c.want {
			t.Errorf("Under(%q, %q): %v", c.p, c.dir, !c.want)
		}
	}
}

// checkPairs calls check for all pairs of the strings.
func checkPairs(all []string, check func(a, b string)) {
	for _, a := range all {
		for _, b := range all {
			check(a, b)
		}
	}
}

func TestP3_3UnderOfAllShortStrings(t *testing.T) {
	check := func(p, dir string) {
		if want := underByWords(p, dir); Under(p, dir) != want {
			t.Fatalf("Under(%q, %q): %v", p, dir, !want)
		}
	}
	checkPairs(samples.Strings("a/", 7), check)
	checkPairs(samples.Strings("ab-/\xff", 3), check)
}

func TestP3_3UnderBeyondTheLimits(t *testing.T) {
	for _, p := range []string{repeated("a", 5000), strings.Repeat("/", 10000), strings.Repeat("x", 300) + "/" + strings.Repeat("y", 300)} {
		if !Under(p, p) || !Under(p+"/b", p) || Under(p+"b", p) || Under(p, p+"/b") || !Under(p, "") {
			t.Errorf("Under of %d bytes, %.40q", len(p), p)
		}
	}
}

func TestP3_4LessOfKnownStrings(t *testing.T) {
	for _, increasing := range [][]string{
		{"a", "a/b", "a-b"}, // the examples
		{"", "a", "a/a", "a/b", "a/b/c", "a/c", "a-", "a-/a", "a-b", "a.", "a.b", "a0", "aa", "b"},
		{"", "/", "//", "//a", "/a", "/a/", "a", "a/", "a//", "a//b", "a/b"},
		{"", "/", "/\x00", "\x00", "\x00/", "\x00/\x00", "\x00\x00", "\x01", "\n", " ", "!", "*", ".", "./", "./a", "..", "../a", "..."},
		{"A", "A/z", "Z", "_", "a", "z", "z/a", "~", "\x7f", "\x80", "\x80/", "\xc3\xa4", "\xff", "\xff/a", "\xff\xff"},
		{"a/b!c", "a/b-c", "a/b.c", "a/b0c", "a/bc"},
		{"a", "a/b", "a/b/c", "a/b!/c", "a!", "a!/b", "a-", "a-b/c", "ab"},
		{"x", "x/y", "x\x00", "x\x00/y", "x ", "x.", "x0"},
		{repeated("a", 20), repeated("a", 21), repeated("a", 20) + "-", repeated("a", 20) + "b"},
		{strings.Repeat("x", 200), strings.Repeat("x", 200) + "/", strings.Repeat("x", 201)},
	} {
		for i, a := range increasing {
			for k, b := range increasing {
				if Less(a, b) != (i < k) {
					t.Errorf("Less(%q, %q): %v", a, b, i >= k)
				}
			}
		}
	}
}

func TestP3_4LessOfAllBytes(t *testing.T) {
	for i := range 256 {
		for k := range 256 {
			for _, around := range []string{"", "x", "x/y"} {
				a, b := around+string([]byte{byte(i)})+around, around+string([]byte{byte(k)})+around
				if want := lessByWords(a, b); Less(a, b) != want {
					t.Fatalf("Less(%q, %q): %v", a, b, !want)
				}
			}
		}
	}
}

func TestP3_4LessOfAllShortStrings(t *testing.T) {
	check := func(a, b string) {
		if want := lessByWords(a, b); Less(a, b) != want {
			t.Fatalf("Less(%q, %q): %v", a, b, !want)
		}
	}
	checkPairs(samples.Strings("a-/", 5), check)
	checkPairs(samples.Strings("a-0/\x00\xff", 3), check)
}

func TestP3_5ValidPatternOfKnownStrings(t *testing.T) {
	for s, want := range map[string]bool{
		"a": true, "a/b.c": true, "*": true, "?": true, "??": true, "*?": true, "?*": true, "*?*": true, "*a*": true, "a*b*c": true,
		"**": true, "**/**": true, "a/**": true, "**/a": true, "a/**/b": true, "*/**/?": true, "*/*": true, "*.go": true, "a?/b*": true,
		"...": true, ".*": true, "*.": true, ".?": true, "?.": true, "*.*": true, "..*": true, "*..": true, "._-": true,
		"": false, "/": false, "//": false, "/a": false, "a/": false, "a//b": false, "**/": false, "/**": false, "**//a": false,
		".": false, "..": false, "a/.": false, "a/..": false, "./*": false, "../**": false, "**/..": false,
		"***": false, "****": false, "a**": false, "**a": false, "a**b": false, "?**": false, "**?": false, "**.": false, "*?**": false, "a/***": false, "a/b**": false, "*a**b": false,
		"a b": false, " *": false, "*\n": false, "[a]": false, "{a,b}": false, "\\*": false, "!a": false, "a+": false, "*\x00": false,
		"\x80": false, "*\xff": false, "?\xaa": false, "ä*": false, "**/ü": false,
	} {
		if ValidPattern(s) != want {
			t.Errorf("ValidPattern(%q): %v", s, !want)
		}
	}
}

func TestP3_5ValidPatternOfEveryByte(t *testing.T) {
	for i := range 256 {
		b := string([]byte{byte(i)})
		want := strings.Contains(nameBytes+"*?", b)
		for _, s := range []string{"x" + b, b + "x", "x" + b + "x", "**/x" + b, "?" + b, b + "?/**"} {
			if b != "/" && ValidPattern(s) != want {
				t.Errorf("ValidPattern(%q): %v", s, !want)
			}
		}
		if b != "." && ValidPattern(b) != want {
			t.Errorf("ValidPattern(%q): %v", b, !want)
		}
	}
}

func TestP3_5LimitsOfPatterns(t *testing.T) {
	for _, c := range []string{"a", "?", "."} {
		for s, want := range limitCases(c) {
			if want = want && (c != "." || !slices.Contains(componentsByWords(s), ".")); ValidPattern(s) != want {
				t.Errorf("ValidPattern of %d bytes, %d components of %s: %v", len(s), len(componentsByWords(s)), c, !want)
			}
		}
	}
	for s, want := range map[string]bool{
		repeated("*", 20): true, repeated("*", 21): false, repeated("**", 20): true, repeated("**", 21): false,
		strings.Repeat("*?", 100): true, strings.Repeat("*?", 100) + "*": false, strings.Repeat("*a", 99) + "**": false, strings.Repeat("?", 197) + "/**": true, strings.Repeat("?", 198) + "/**": false,
	} {
		if ValidPattern(s) != want {
			t.Errorf("ValidPattern of %d bytes, %d components, %.20q: %v", len(s), len(componentsByWords(s)), s, !want)
		}
	}
}

func TestP3_5ValidPatternOfAllShortStrings(t *testing.T) {
	for _, s := range append(samples.Strings("a*./", 6), samples.Strings("a*?./ \xff", 5)...) {
		if want := patternByWords(s); ValidPattern(s) != want {
			t.Fatalf("ValidPattern(%q): %v", s, !want)
		}
	}
}

func TestP3_6MatchOfKnownStrings(t *testing.T) {
	for _, c := range []struct {
		pattern string
		yes, no []string
	}{
		{"a/*.go", []string{"a/x.go", "a/.go", "a/x.y.go", "a/.go.go"}, []string{"a/b/x.go", "a", "a.go", "b/x.go", "a/x.goo", "a/xgo", "x/a/x.go", "a/x.go/y"}},
		{"**/x?", []string{"x1", "a/b/x2", "a/x.", "xx", "x1/x2"}, []string{"a/x", "x", "x12", "a/b/y2", "x1/a"}},
		{"a", []string{"a"}, []string{"b", "aa", "A", "a/a", "a/b", "b/a"}},
		{"a/b", []string{"a/b"}, []string{"a", "b", "a/c", "a/b/c", "c/a/b", "a-b", "ab"}},
		{"?", []string{"a", "-", "_", "Z", "9"}, []string{"ab", "a/b"}},
		{"???", []string{"abc", "..."}, []string{"ab", "abcd", "a/b"}},
		{"*", []string{"a", "ab", "a.b", "..."}, []string{"a/b"}},
		{"*/*", []string{"a/b", "ab/cd"}, []string{"a", "a/b/c"}},
		{"a*", []string{"a", "ab", "aaa"}, []string{"b", "ba", "a/b"}},
		{"*a", []string{"a", "ba", "aaa"}, []string{"ab", "b/a"}},
		{"*a*", []string{"a", "ab", "ba", "bab"}, []string{"b", "b/a"}},
		{"*?", []string{"a", "ab", "abc"}, []string{"a/b"}},
		{"?*?", []string{"ab", "abc", "abcd"}, []string{"a"}},
		{"*a*b", []string{"ab", "aab", "xaxb", "abab", "abb"}, []string{"aba", "ba", "a", "b", "abc"}},
		{"a*b*c", []string{"abc", "axbxc", "abcbc", "abbcc"}, []string{"acb", "ab", "abcd", "ac"}},
		{"*ab*", []string{"aab", "abab", "xaaby"}, []string{"ba", "a", "aa"}},
		{"a*a", []string{"aa", "aba", "aaa"}, []string{"a", "ab"}},
		{"*aab", []string{"aaab", "aab", "aabaab"}, []string{"aaba", "ab"}},
		{"**", []string{"a", "a/b", "a/b/c", "...", repeated("a", 20), strings.Repeat("a", 200)}, nil},
		{"**/**", []string{"a", "a/b", "a/b/c"}, nil},
		{"a/**", []string{"a", "a/b", "a/b/c"}, []string{"ab", "b", "b/a", "ab/c", "a-/b"}},
		{"**/a", []string{"a", "b/a", "c/b/a", "a/a"}, []string{"ab", "a/b", "ba", "b/ca"}},
		{"a/**/b", []string{"a/b", "a/c/b", "a/c/d/b", "a/b/b", "a/a/b"}, []string{"a", "b", "ab", "a/b/c", "c/a/b", "a/c"}},
		{"a/**/*/b", []string{"a/c/b", "a/c/d/b", "a/b/b"}, []string{"a/b", "a/c"}},
		{"**/a/**", []string{"a", "b/a", "a/b", "b/a/c", "a/a"}, []string{"b", "ab", "b/c", "ba/ab"}},
		{"**/a/**/a", []string{"a/a", "a/b/a", "b/a/c/a", "a/a/a"}, []string{"a", "b/a", "a/b"}},
		{"**/*", []string{"a", "a/b", "a/b/c"}, nil},
		{"*/**", []string{"a", "a/b", "a/b/c"}, nil},
		{"**/*/*/**", []string{"a/b", "a/b/c", "a/b/c/d"}, []string{"a"}},
		{".*", []string{".a", "...", ".a.b"}, []string{"a", "a.b"}},
		{"?.", []string{"a.", "-."}, []string{"a", "ab"}},
		{repeated("?", 20), []string{repeated("a", 20)}, []string{repeated("a", 19)}},
		{repeated("**", 20), []string{"a", repeated("a", 20)}, nil},
		{strings.Repeat("?", 200), []string{strings.Repeat("a", 200)}, []string{strings.Repeat("a", 199)}},
	} {
		for _, path := range c.yes {
			if !Match(c.pattern, path) {
				t.Errorf("Match(%q, %q): false", c.pattern, path)
			}
		}
		for _, path := range c.no {
			if Match(c.pattern, path) {
				t.Errorf("Match(%q, %q): true", c.pattern, path)
			}
		}
	}
}

func TestP3_6NothingInvalidMatches(t *testing.T) {
	for _, s := range strange() {
		for _, path := range []string{s, "a", "a/b", "ab", ".", "..", ""} {
			if Match(s, path) {
				t.Errorf("Match(%q, %q): true", s, path)
			}
		}
		for _, pattern := range []string{s, "**", "*", "?", "??", "*/*", "**/*", "a/**", "a*", "*?*"} {
			if Match(pattern, s) {
				t.Errorf("Match(%q, %q): true", pattern, s)
			}
		}
	}
	for _, path := range []string{"*", "?", "**", "a*", "a/*", "a/**", "a/?"} {
		if Match(path, path) {
			t.Errorf("Match(%q, %q): true, but the latter is no path", path, path)
		}
	}
}

func TestP3_6MatchOfAllShortStrings(t *testing.T) {
	paths := slices.DeleteFunc(samples.Strings("ab/", 5), func(p string) bool { return !validByWords(p) })
	for _, pattern := range samples.Strings("ab*?/", 5) {
		if !patternByWords(pattern) {
			continue
		}
		for _, path := range paths {
			if want := matchByWords(pattern, path); Match(pattern, path) != want {
				t.Fatalf("Match(%q, %q): %v", pattern, path, !want)
			}
		}
	}
}

func TestP3_6MatchOfInvalidShortStrings(t *testing.T) {
	checkPairs(samples.Strings("a.*?/\xff", 3), func(pattern, path string) {
		if want := matchByWords(pattern, path); Match(pattern, path) != want {
			t.Fatalf("Match(%q, %q): %v", pattern, path, !want)
		}
	})
}

func TestP3_6MatchOfLongerStrings(t *testing.T) {
	matched := 0
	for _, alphabets := range [][2]string{{"ab*?", "ab"}, {"ab*?*?*?/", "ab/"}, {"a*/", "a/"}, {"aa**b//", "aab/"}} {
		pattern, path := samples.Words(2, alphabets[0]), samples.Words(3, alphabets[1])
		for range 100000 {
			s, p := pattern(14), path(14)
			want := matchByWords(s, p)
			if Match(s, p) != want {
				t.Fatalf("Match(%q, %q): %v", s, p, !want)
			}
			if want {
				matched++
			}
		}
	}
	if matched < 1000 {
		t.Errorf("only %d of the patterns match", matched)
	}
}

func TestP3_7DirAndBaseGiveBackTheString(t *testing.T) {
	for _, p := range append(samples.Strings("a./", 7), strange()...) {
		if len(Parts(p)) >= 2 && Dir(p)+"/"+Base(p) != p {
			t.Fatalf("Dir and Base of %q: %q, %q", p, Dir(p), Base(p))
		}
	}
}

// sortedByLess returns the strings in the order of paths, each once.
func sortedByLess(all []string) []string {
	sorted := slices.Clone(all)
	slices.SortFunc(sorted, func(a, b string) int {
		switch {
		case Less(a, b):
			return -1
		case Less(b, a):
			return 1
		}
		return 0
	})
	return slices.Compact(sorted)
}

func TestP3_7LessIsAStrictOrder(t *testing.T) {
	sorted := sortedByLess(append(samples.Strings("a-/", 4), append(samples.Strings("a\x00/\xff", 3), strange()...)...))
	for i, a := range sorted {
		for k, b := range sorted {
			if Less(a, b) != (i < k) {
				t.Fatalf("Less(%q, %q): %v, but they are at %d and %d", a, b, i >= k, i, k)
			}
		}
	}
}

func TestP3_7WhatIsUnderADirectoryFollowsIt(t *testing.T) {
	sorted := sortedByLess(append(samples.Strings("a-/", 5), samples.Strings("a\x00/\xff", 3)...))
	for first, dir := range sorted {
		end := first
		for end < len(sorted) && Under(sorted[end], dir) {
			end++
		}
		if end == first {
			t.Fatalf("%q is not under itself", dir)
		}
		for i, p := range sorted {
			if inside := first <= i && i < end; Under(p, dir) != inside {
				t.Fatalf("Under(%q, %q): %v, but they do not follow each other", p, dir, !inside)
			}
		}
	}
}

func TestP3_7APatternWithoutWildcardsMatchesItselfOnly(t *testing.T) {
	paths := slices.DeleteFunc(samples.Strings("a-./", 4), func(p string) bool { return !validByWords(p) })
	paths = append(paths, repeated("a", 20), strings.Repeat("a", 200))
	checkPairs(paths, func(pattern, path string) {
		if !ValidPattern(pattern) || Match(pattern, path) != (pattern == path) {
			t.Fatalf("Match(%q, %q): %v", pattern, path, Match(pattern, path))
		}
	})
}

func TestP3_7TwoStarsMatchWhatIsValidAndUnder(t *testing.T) {
	all := append(samples.Strings("a-/", 5), strange()...)
	for _, p := range append(all, repeated("a", 20), strings.Repeat("a", 200)) {
		if Match("**", p) != validByWords(p) {
			t.Fatalf("Match of ** and %q: %v", p, !validByWords(p))
		}
		for _, d := range []string{"a", "-", "a/a", "a-", "aa", "a/-/a"} {
			if want := validByWords(p) && underByWords(p, d); Match(d+"/**", p) != want {
				t.Fatalf("Match(%q, %q): %v", d+"/**", p, !want)
			}
		}
	}
}

// callAll calls all functions with these strings.
func callAll(a, b string) {
	Valid(a)
	Parts(a)
	Dir(a)
	Base(a)
	Under(a, b)
	Less(a, b)
	ValidPattern(a)
	Match(a, b)
}

func TestP1CallsEndForAllArguments(t *testing.T) {
	all := append(strange(), "a", "a/b", "*", "**", "a/**", "?")
	for i := range 256 {
		all = append(all, string([]byte{byte(i)}))
	}
	checkPairs(all, callAll)
	checkPairs(samples.Strings("a.*/\xff", 3), callAll)
}

func TestP1CallsEndForVeryLongStrings(t *testing.T) {
	checkPairs([]string{
		"", "a", "**", "/", strings.Repeat("a/", 1<<20), strings.Repeat("/", 1<<20), strings.Repeat("x", 1<<21), strings.Repeat("*", 1<<21), strings.Repeat("**/", 1<<20),
	}, callAll)
}

// TestP1MatchEndsForPatternsWithManyStars takes patterns for which it would take years to try all ways to divide the components or the bytes.
func TestP1MatchEndsForPatternsWithManyStars(t *testing.T) {
	for _, c := range []struct {
		pattern, path string
		want          bool
	}{
		{repeated("**", 19) + "/b", repeated("a", 20), false},
		{repeated("**", 19) + "/a", repeated("a", 20), true},
		{strings.Repeat("**/a/", 9) + "**/b", repeated("a", 20), false},
		{strings.Repeat("**/*/", 10)[:49], repeated("a", 20), true},
		{strings.Repeat("*a", 99) + "*b", strings.Repeat("a", 200), false},
		{strings.Repeat("*a", 100), strings.Repeat("a", 200), true},
		{strings.Repeat("*?", 99) + "*b", strings.Repeat("a", 200), false},
		{strings.Repeat("*ab", 66), strings.Repeat("ab", 100), true},
		{"**/" + strings.Repeat("*a*a/**/", 9) + "*a*b", strings.Repeat("aaaaaa/", 19) + "aaaaaa", false},
	} {
		if !ValidPattern(c.pattern) || !Valid(c.path) {
			t.Errorf("%q or %q is not valid", c.pattern, c.path)
		}
		if Match(c.pattern, c.path) != c.want {
			t.Errorf("Match(%q, %q): %v", c.pattern, c.path, !c.want)
		}
	}
}
