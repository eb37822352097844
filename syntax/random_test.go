package syntax

import (
	"slices"
	"strings"

	"mainline/api"
)

// vocabulary is tokens of each sort, some of them permitted in a few places only, some nowhere; the empty one is the end.
func vocabulary() []string {
	return []string{
		"platforms", "target", "kind", "srcs", "deps", "out", "visible", "cost", "retry", "lib", "bin", "test", "gen", "glob",
		"linux", "arm", "_", "a.b-c", "Kind", "globs", "x1", "x2", "x3", "x4", "x5",
		`""`, `"x.go"`, `"# {"`, `"glob"`, "\"\r\x00\xff\"", "{", "}", "(", ")", ",", ";",
		"0", "1", "2", "5", "6", "007", "1000", "1001", "99999999999999999999", "@", "\"", "-", ".", "\x00", "",
	}
}

// vocabularyPieces are the tokens of the vocabulary.
var vocabularyPieces = func() []piece {
	var l []piece
	for _, token := range vocabulary() {
		l = append(l, piecesOf(token)[0])
	}
	return l
}()

// separators stand between tokens.
func separators() []string {
	return []string{"", " ", "\n", "\t", "\r", "\r\n", "   ", " \n\n ", "#\n", "# comment\n", "# target x { \"\n\t#\n", "\n#}\r\n"}
}

// merge tells whether two tokens would be one, or others, if nothing stood between them.
func merge(a, b string) bool {
	if a == "" || b == "" {
		return false
	}
	pieces := piecesOf(a + b)
	return len(pieces) != 3 || pieces[0].text != a || pieces[1].text != b
}

// randomlySeparated returns a source with these tokens.
func randomlySeparated(tokens []string, below func(int) int) string {
	var s strings.Builder
	before := ""
	for _, token := range tokens {
		separator := separators()[below(len(separators()))]
		if separator == "" && merge(before, token) {
			separator = " "
		}
		s.WriteString(separator + token)
		before = token
	}
	return s.String()
}

// next is a token that the grammar permits at a place, what it means there, and what can be behind it.
type next struct {
	piece
	meaning string
	rest    []part
}

// permitted returns the tokens of the vocabulary that the grammar permits at a place.
func permitted(todo []part) []next {
	var l []next
	ways := beginnings(todo)
	for _, p := range vocabularyPieces {
		if meaning, rest, ok := choose(ways, p); ok {
			l = append(l, next{p, meaning, rest})
		}
	}
	return l
}

// randomNext returns one of the tokens: while there are not enough, one that is not the end, and then, where there is one, one that leads to the end.
func randomNext(l []next, enough bool, below func(int) int) next {
	leads := slices.IndexFunc(l, func(n next) bool { return enough && slices.Contains([]string{"", "}", ";", ")"}, n.text) })
	if leads >= 0 {
		return l[leads]
	}
	n := l[below(len(l))]
	if n.text == "" {
		return l[0]
	}
	return n
}

// randomTokens returns tokens that the grammar permits, as many as it is told, and then those that lead to the end.
func randomTokens(many int, below func(int) int) []string {
	l, _ := randomWalk(many, below, func(next) bool { return true })
	return l
}

// randomSourceTokens returns the tokens of a source without errors.
func randomSourceTokens(many int, below func(int) int) []string {
	for {
		var d description
		l, ok := randomWalk(many, below, func(n next) bool {
			_, e := d.add(n.meaning, n.piece)
			return e == api.OK
		})
		if ok {
			return l
		}
	}
}

// randomWalk returns tokens that the grammar permits and that are accepted one after the other, or false if none is at some place.
func randomWalk(many int, below func(int) int, accept func(next) bool) ([]string, bool) {
	var l []string
	todo := []part{grammar}
	for tries := 0; tries < 100; tries++ {
		n := randomNext(permitted(todo), len(l) >= many, below)
		if !accept(n) {
			continue
		}
		if n.sort == "end" {
			return l, true
		}
		l, todo, tries = append(l, n.text), n.rest, 0
	}
	return nil, false
}

// changedTokens returns tokens some of which are taken away, replaced, doubled or exchanged.
func changedTokens(tokens []string, below func(int) int) []string {
	l := slices.Clone(tokens)
	for range below(3) {
		if len(l) == 0 {
			return l
		}
		at, other := below(len(l)), below(len(l))
		switch below(4) {
		case 0:
			l = slices.Delete(l, at, at+1)
		case 1:
			l[at] = vocabulary()[below(len(vocabulary()))]
		case 2:
			l = slices.Insert(l, at, l[other])
		case 3:
			l[at], l[other] = l[other], l[at]
		}
	}
	return l
}

// randomBuild returns a build; about one of so many fields has a value that is not well-formed there.
func randomBuild(rarity int, below func(int) int) api.Build {
	r := builder{rarity, below}
	var b api.Build
	for n := range below(4) {
		name := r.choose([]string{"linux", "target", "_", "p.1-"}, []string{"glob", "", "1", "a b", "é", "a,b"})
		b.Platforms = append(b.Platforms, api.Item{Text: r.unlikeOthers(name, n), Line: below(5) - 2, Glob: r.rarely(), Platform: r.choose([]string{""}, []string{"linux"})})
	}
	for n := range below(4) {
		b.Targets = append(b.Targets, r.target(n))
	}
	return b
}

// builder makes random parts of builds.
type builder struct {
	rarity int
	below  func(int) int
}

func (r builder) rarely() bool {
	return r.below(r.rarity) == 0
}

func (r builder) choose(often, rarely []string) string {
	if r.rarely() {
		often = rarely
	}
	return often[r.below(len(often))]
}

// unlikeOthers returns a name that most others with different numbers do not have.
func (r builder) unlikeOthers(name string, n int) string {
	if r.rarely() {
		return name
	}
	return name + string(rune('a'+n))
}

func (r builder) target(n int) api.Target {
	t := api.Target{Name: r.unlikeOthers(r.choose([]string{"a", "glob", "kind", "x-1.c_"}, []string{"", "9", "-a", "a b", "a{", "b;", "c\n", "d#", "\xff"}), n), Line: r.below(9) - 2}
	t.Kind = api.Lib + r.below(4)
	if r.rarely() {
		t.Kind = []int{0, 5, -1, 1 << 62}[r.below(4)]
	}
	t.Cost = []int{1, 2, 999, 1000}[r.below(4)]
	if r.rarely() {
		t.Cost = []int{0, 1001, -1, -1 << 63}[r.below(4)]
	}
	if t.Kind == api.Test || r.rarely() {
		t.Retry = r.below(6)
	}
	if r.rarely() {
		t.Retry = []int{6, -1, 1 << 32, -1 << 63}[r.below(4)]
	}
	t.Srcs = r.items(true, true)
	t.Deps = r.items(true, false)
	t.Outs = r.items(false, false)
	t.Visible = r.items(false, false)
	return t
}

// items returns items, which can have platforms and globs only where it is told so.
func (r builder) items(platforms, globs bool) []api.Item {
	var l []api.Item
	for range r.below(5) {
		i := api.Item{Text: r.choose([]string{"", "x.go", "**/*.c", "//a:b", "# {", "\r\x00\xff"}, []string{"\"", "a\nb", "\n", "\"; out \""}), Line: r.below(9) - 2}
		if platforms || r.rarely() {
			i.Platform = r.choose([]string{"", "linux", "arm"}, []string{"glob", "glob(", "\"", "a b", "1"})
		}
		i.Glob = globs && r.below(2) == 0 || r.rarely()
		l = append(l, i)
	}
	return l
}
