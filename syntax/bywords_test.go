package syntax

import (
	"regexp"
	"slices"
	"strconv"
	"strings"
	"testing"

	"mainline/api"
)

// piece is a token, as the chapter describes it.
type piece struct {
	sort string // word, number, string, symbol, end or none
	text string // with the quotation marks of a string
	line int
}

// sortsOfPieces tell what begins with blanks, comments and tokens.
var sortsOfPieces = []struct {
	sort string
	form *regexp.Regexp
}{
	{"blank", regexp.MustCompile(`^[\x09\x0a\x0d\x20]`)},
	{"comment", regexp.MustCompile(`^#[^\n]*`)},
	{"word", regexp.MustCompile(`^[a-zA-Z_][a-zA-Z0-9_.-]*`)},
	{"number", regexp.MustCompile(`^[0-9]+`)},
	{"string", regexp.MustCompile(`^"[^"\n]*"`)},
	{"symbol", regexp.MustCompile(`^[{}(),;]`)},
	{"none", regexp.MustCompile(`(?s)^.`)},
}

// piecesOf returns the tokens of a source, the end among them.
func piecesOf(s string) []piece {
	var all []piece
	line := 1
	for s != "" {
		for _, p := range sortsOfPieces {
			text := p.form.FindString(s)
			if text == "" {
				continue
			}
			if p.sort != "blank" && p.sort != "comment" {
				all = append(all, piece{p.sort, text, line})
			}
			line += strings.Count(text, "\n")
			s = s[len(text):]
			break
		}
	}
	return append(all, piece{"end", "", line})
}

// part is a part of a rule of the grammar: a token that fits, with what it means, or parts that follow each other, can be left out, can be repeated, or are alternatives.
type part struct {
	form    string // token, all, maybe, any or one
	fits    func(piece) bool
	meaning string
	parts   []part
}

func all(parts ...part) part   { return part{form: "all", parts: parts} }
func maybe(parts ...part) part { return part{form: "maybe", parts: parts} }
func some(parts ...part) part  { return part{form: "any", parts: parts} }
func one(parts ...part) part   { return part{form: "one", parts: parts} }

func is(text, meaning string) part {
	return part{form: "token", fits: func(p piece) bool { return p.text == text }, meaning: meaning}
}

func isOf(sort, meaning string) part {
	return part{form: "token", fits: func(p piece) bool { return p.sort == sort }, meaning: meaning}
}

func platformPart(meaning string) part {
	return part{form: "token", fits: func(p piece) bool { return p.sort == "word" && p.text != "glob" }, meaning: meaning}
}

// separated is a list as the grammar has it everywhere.
func separated(x part) part {
	return all(x, some(is(",", ""), x), is(";", ""))
}

// grammar is the rule "file" of the chapter.
var grammar = fileRule()

func fileRule() part {
	text := isOf("string", "string")
	source := one(text, all(is("glob", "glob"), is("(", ""), text, is(")", "")))
	kind := one(is("lib", "kind of target"), is("bin", "kind of target"), is("test", "kind of target"), is("gen", "kind of target"))
	attribute := one(
		all(is("kind", "attribute"), kind, is(";", "")),
		all(is("srcs", "attribute"), maybe(platformPart("platform")), separated(source)),
		all(is("deps", "attribute"), maybe(platformPart("platform")), separated(text)),
		all(is("out", "attribute"), separated(text)),
		all(is("visible", "attribute"), separated(text)),
		all(is("cost", "attribute"), isOf("number", "number"), is(";", "")),
		all(is("retry", "attribute"), isOf("number", "number"), is(";", "")),
	)
	target := all(is("target", "target"), isOf("word", "name"), is("{", ""), some(attribute), is("}", "end of target"))
	return all(maybe(is("platforms", ""), separated(platformPart("declared"))), some(target), isOf("end", ""))
}

// beginnings returns the ways in which parts that follow each other can begin with a token, and go on behind it.
func beginnings(parts []part) [][]part {
	if len(parts) == 0 {
		return nil
	}
	p, rest := parts[0], parts[1:]
	switch p.form {
	case "token":
		return [][]part{parts}
	case "all":
		return beginnings(slices.Concat(p.parts, rest))
	case "maybe":
		return append(beginnings(slices.Concat(p.parts, rest)), beginnings(rest)...)
	case "any":
		return append(beginnings(slices.Concat(p.parts, parts)), beginnings(rest)...)
	}
	var ways [][]part
	for _, alternative := range p.parts {
		ways = append(ways, beginnings(slices.Concat([]part{alternative}, rest))...)
	}
	return ways
}

// follow returns what a token means at its place, and what can be behind it; or false if it is not permitted: every way to begin can be gone on to an end.
func follow(todo []part, p piece) (string, []part, bool) {
	return choose(beginnings(todo), p)
}

// choose returns the way that begins with a token: what the token means there, and what can be behind it.
func choose(ways [][]part, p piece) (meaning string, rest []part, ok bool) {
	for _, way := range ways {
		if way[0].fits(p) {
			if ok {
				panic("a token with two meanings: " + p.text)
			}
			meaning, rest, ok = way[0].meaning, way[1:], true
		}
	}
	return meaning, rest, ok
}

// description is the build of the tokens that have been examined.
type description struct {
	build     api.Build
	words     []string // of the attributes of the last target
	platform  string   // of the last attribute
	glob      bool     // stands before the next string
	retryLine int
}

// last returns the last target.
func (d *description) last() *api.Target {
	return &d.build.Targets[len(d.build.Targets)-1]
}

// add describes one more token, which is permitted at its place; it returns an error with its line.
func (d *description) add(meaning string, p piece) (int, api.Errno) {
	switch meaning {
	case "declared":
		if slices.ContainsFunc(d.build.Platforms, func(i api.Item) bool { return i.Text == p.text }) {
			return p.line, api.ErrTwice
		}
		d.build.Platforms = append(d.build.Platforms, api.Item{Text: p.text, Line: p.line})
	case "target":
		d.build.Targets = append(d.build.Targets, api.Target{Kind: api.Lib, Line: p.line, Cost: 1})
		d.words = nil
	case "name":
		if slices.ContainsFunc(d.build.Targets, func(t api.Target) bool { return t.Name == p.text }) {
			return p.line, api.ErrTwice
		}
		d.last().Name = p.text
	case "attribute":
		if slices.Contains([]string{"kind", "cost", "retry"}, p.text) && slices.Contains(d.words, p.text) {
			return p.line, api.ErrTwice
		}
		d.words = append(d.words, p.text)
		d.platform = ""
	case "kind of target":
		d.last().Kind = map[string]int{"lib": api.Lib, "bin": api.Bin, "test": api.Test, "gen": api.Gen}[p.text]
	case "platform":
		d.platform = p.text
	case "glob":
		d.glob = true
	case "string":
		d.addItem(api.Item{Text: p.text[1 : len(p.text)-1], Glob: d.glob, Platform: d.platform, Line: p.line})
		d.glob = false
	case "number":
		return d.addNumber(p)
	case "end of target":
		if d.last().Kind != api.Test && d.last().Retry != 0 {
			return d.retryLine, api.ErrNumber
		}
	}
	return 0, api.OK
}

func (d *description) addItem(i api.Item) {
	t := d.last()
	items := map[string]*[]api.Item{"srcs": &t.Srcs, "deps": &t.Deps, "out": &t.Outs, "visible": &t.Visible}[d.words[len(d.words)-1]]
	*items = append(*items, i)
}

// addNumber finds the number among those that are permitted: their digits without zeros in front.
func (d *description) addNumber(p piece) (int, api.Errno) {
	field, from, to := &d.last().Cost, 1, 1000
	if d.words[len(d.words)-1] == "retry" {
		field, from, to = &d.last().Retry, 0, 5
		d.retryLine = p.line
	}
	for n := from; n <= to; n++ {
		if strings.TrimLeft(p.text, "0") == strings.TrimLeft(strconv.Itoa(n), "0") {
			*field = n
			return 0, api.OK
		}
	}
	return p.line, api.ErrNumber
}

func parseByWords(s string) (api.Build, int, api.Errno) {
	var d description
	todo := []part{grammar}
	for _, p := range piecesOf(s) {
		meaning, rest, ok := follow(todo, p)
		if !ok {
			return api.Build{}, p.line, api.ErrSyntax
		}
		if line, e := d.add(meaning, p); e != api.OK {
			return api.Build{}, line, e
		}
		todo = rest
	}
	return d.build, 0, api.OK
}

// written returns the source that Print should return if the build is well-formed; if it is not, the result is any string.
func written(b api.Build) string {
	var s strings.Builder
	if len(b.Platforms) > 0 {
		s.WriteString("platforms ")
		for n, p := range b.Platforms {
			s.WriteString(map[bool]string{true: ", "}[n > 0] + p.Text)
		}
		s.WriteString(";\n")
	}
	for _, t := range b.Targets {
		s.WriteString("target " + t.Name + " {\n  kind " + map[int]string{api.Lib: "lib", api.Bin: "bin", api.Test: "test", api.Gen: "gen"}[t.Kind] + ";\n")
		s.WriteString(writtenItems("srcs", t.Srcs) + writtenItems("deps", t.Deps) + writtenItems("out", t.Outs) + writtenItems("visible", t.Visible))
		if t.Cost != 1 {
			s.WriteString("  cost " + strconv.Itoa(t.Cost) + ";\n")
		}
		if t.Retry != 0 {
			s.WriteString("  retry " + strconv.Itoa(t.Retry) + ";\n")
		}
		s.WriteString("}\n")
	}
	return s.String()
}

func writtenItems(word string, items []api.Item) string {
	s := ""
	for n, i := range items {
		switch {
		case n > 0 && i.Platform == items[n-1].Platform:
			s += ", "
		case n > 0:
			s += ";\n"
			fallthrough
		default:
			s += "  " + word + " "
			if i.Platform != "" {
				s += i.Platform + " "
			}
		}
		if i.Glob {
			s += `glob("` + i.Text + `")`
		} else {
			s += `"` + i.Text + `"`
		}
	}
	if s != "" {
		s += ";\n"
	}
	return s
}

// rightByWords tells whether a build is well-formed: if a source has it, the one that Print should return has it.
func rightByWords(b api.Build) bool {
	again, _, e := parseByWords(written(b))
	return e == api.OK && alike(again, b)
}

func printByWords(b api.Build) string {
	if !rightByWords(b) {
		return ""
	}
	return written(b)
}

// same tells whether two builds are equal, where nil and empty lists do not differ.
func same(a, b api.Build) bool {
	return slices.Equal(a.Platforms, b.Platforms) && slices.EqualFunc(a.Targets, b.Targets, sameTarget)
}

func sameTarget(a, b api.Target) bool {
	return a.Name == b.Name && a.Kind == b.Kind && a.Line == b.Line && a.Cost == b.Cost && a.Retry == b.Retry &&
		slices.Equal(a.Srcs, b.Srcs) && slices.Equal(a.Deps, b.Deps) && slices.Equal(a.Outs, b.Outs) && slices.Equal(a.Visible, b.Visible)
}

// alike tells whether two builds are equal apart from lines.
func alike(a, b api.Build) bool {
	return same(onLine(a, 0), onLine(b, 0))
}

// onLine returns a copy of a build with the same line everywhere.
func onLine(b api.Build, line int) api.Build {
	items := func(from []api.Item) []api.Item {
		to := slices.Clone(from)
		for n := range to {
			to[n].Line = line
		}
		return to
	}
	c := api.Build{Platforms: items(b.Platforms), Targets: slices.Clone(b.Targets)}
	for n := range c.Targets {
		t := &c.Targets[n]
		t.Line = line
		t.Srcs, t.Deps, t.Outs, t.Visible = items(t.Srcs), items(t.Deps), items(t.Outs), items(t.Visible)
	}
	return c
}

// parses checks what Parse returns for a source.
func parses(t *testing.T, s string, want api.Build, wantLine int, wantE api.Errno) {
	t.Helper()
	b, line, e := Parse(s)
	if line != wantLine || e != wantE {
		t.Fatalf("line %d, error %d of %.300q; want %d, %d", line, e, s, wantLine, wantE)
	}
	if !same(b, want) {
		t.Fatalf("%.300q is\n%+v; want\n%+v", s, b, want)
	}
}

// parsesByWords checks that Parse returns what the chapter says.
func parsesByWords(t *testing.T, s string) {
	t.Helper()
	b, line, e := parseByWords(s)
	parses(t, s, b, line, e)
}

// fails checks the error of a source.
func fails(t *testing.T, s string, line int, e api.Errno) {
	t.Helper()
	parses(t, s, api.Build{}, line, e)
}

// printsByWords checks that Right and Print return what the chapter says.
func printsByWords(t *testing.T, b api.Build) {
	t.Helper()
	if got, want := Right(b), rightByWords(b); got != want {
		t.Fatalf("Right is %t of %+v", got, b)
	}
	if got, want := Print(b), printByWords(b); got != want {
		t.Fatalf("%+v is printed as\n%s; want\n%s", b, got, want)
	}
}
