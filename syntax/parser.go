package syntax

import (
	"strconv"
	"strings"

	"mainline/api"
)

// parser takes the tokens of a source one after the other. Once an error is found, what is ahead is permitted nowhere, and stays there: so the rules of the grammar need not ask for errors, as they take nothing more, and come to their end.
type parser struct {
	tokens     scanner
	ahead      token // the first one that has not been taken
	fault      api.Errno
	faultLine  int
	attributes map[string]func(word token) // each parses what is behind its word
	names      map[string]bool             // of the targets so far
	target     api.Target                  // the one whose attributes are parsed
	had        map[string]bool             // the words of its attributes that it cannot have again
	retryLine  int                         // where the number of its retry is
}

func newParser(source string) *parser {
	p := &parser{tokens: scanner{source, 1}, names: map[string]bool{}, had: map[string]bool{}}
	p.attributes = map[string]func(word token){
		"kind":    p.kind,
		"srcs":    p.srcs,
		"deps":    p.deps,
		"out":     p.outs,
		"visible": p.visible,
		"cost":    p.cost,
		"retry":   p.retry,
	}
	p.ahead = p.tokens.next()
	return p
}

// fail notes an error, unless there is one already.
func (p *parser) fail(line int, e api.Errno) {
	if p.fault == api.OK {
		p.faultLine, p.fault = line, e
	}
	p.ahead = token{class: wrongToken}
}

// refuse notes that the token ahead is not permitted.
func (p *parser) refuse() {
	p.fail(p.ahead.line, api.ErrSyntax)
}

// advance takes the token ahead, whatever it is.
func (p *parser) advance() token {
	taken := p.ahead
	p.ahead = p.tokens.next()
	return taken
}

// take takes the token ahead if it is this word or symbol, and tells whether it is.
func (p *parser) take(text string) bool {
	if p.ahead.text != text {
		return false
	}
	p.advance()
	return true
}

// expect takes a word or symbol that must come next.
func (p *parser) expect(text string) {
	if !p.take(text) {
		p.refuse()
	}
}

// expectAny takes a token of a class that must come next.
func (p *parser) expectAny(c class) token {
	if p.ahead.class != c {
		p.refuse()
		return token{}
	}
	return p.advance()
}

// once makes an error of a token with a text that was seen before.
func (p *parser) once(seen map[string]bool, t token) {
	if seen[t.text] {
		p.fail(t.line, api.ErrTwice)
	}
	seen[t.text] = true
}

// list parses elements with commas between them, and the semicolon behind them.
func list[T any](p *parser, element func() T) []T {
	all := []T{element()}
	for p.take(",") {
		all = append(all, element())
	}
	p.expect(";")
	return all
}

// file parses all of a source.
func (p *parser) file() api.Build {
	var b api.Build
	if p.take("platforms") {
		b.Platforms = p.platforms()
	}
	for p.ahead.text == "target" {
		b.Targets = append(b.Targets, p.wholeTarget())
	}
	p.expectAny(endToken)
	return b
}

// platforms parses the platforms that a source declares.
func (p *parser) platforms() []api.Item {
	declared := map[string]bool{}
	return list(p, func() api.Item {
		if !p.platformAhead() {
			p.refuse()
			return api.Item{}
		}
		name := p.advance()
		p.once(declared, name)
		return api.Item{Text: name.text, Line: name.line}
	})
}

// platformAhead tells whether the token ahead is the name of a platform.
func (p *parser) platformAhead() bool {
	return p.ahead.class == wordToken && p.ahead.text != notPlatform
}

// wholeTarget parses a target, whose first word is ahead.
func (p *parser) wholeTarget() api.Target {
	p.target = api.Target{Kind: api.Lib, Line: p.advance().line, Cost: defaultCost, Retry: defaultRetry}
	clear(p.had)
	name := p.expectAny(wordToken)
	p.once(p.names, name)
	p.target.Name = name.text
	p.expect("{")
	for p.attribute() {
	}
	p.expect("}")
	// Only now is the kind known for sure, as it may stand behind the retry.
	if p.target.Retry != defaultRetry && p.target.Kind != api.Test {
		p.fail(p.retryLine, api.ErrNumber)
	}
	return p.target
}

// attribute parses an attribute, and tells whether there is one.
func (p *parser) attribute() bool {
	parse, ok := p.attributes[p.ahead.text]
	if ok {
		parse(p.advance())
	}
	return ok
}

func (p *parser) kind(word token) {
	p.once(p.had, word)
	for kind := api.Lib; kind <= api.Gen; kind++ {
		if p.take(kindWords[kind]) {
			p.target.Kind = kind
			p.expect(";")
			return
		}
	}
	p.refuse()
}

func (p *parser) srcs(token) {
	p.target.Srcs = append(p.target.Srcs, p.limited(p.source)...)
}

func (p *parser) deps(token) {
	p.target.Deps = append(p.target.Deps, p.limited(p.text)...)
}

func (p *parser) outs(token) {
	p.target.Outs = append(p.target.Outs, list(p, p.text)...)
}

func (p *parser) visible(token) {
	p.target.Visible = append(p.target.Visible, list(p, p.text)...)
}

func (p *parser) cost(word token) {
	p.once(p.had, word)
	p.target.Cost = p.numberWithin(leastCost, greatestCost)
	p.expect(";")
}

func (p *parser) retry(word token) {
	p.once(p.had, word)
	p.retryLine = p.ahead.line
	p.target.Retry = p.numberWithin(leastRetry, greatestRetry)
	p.expect(";")
}

// limited parses items that a platform may stand before.
func (p *parser) limited(item func() api.Item) []api.Item {
	platform := ""
	if p.platformAhead() {
		platform = p.advance().text
	}
	items := list(p, item)
	for i := range items {
		items[i].Platform = platform
	}
	return items
}

// source parses a string that can be a glob.
func (p *parser) source() api.Item {
	if !p.take("glob") {
		return p.text()
	}
	p.expect("(")
	item := p.text()
	item.Glob = true
	p.expect(")")
	return item
}

// text parses a string.
func (p *parser) text() api.Item {
	t := p.expectAny(stringToken)
	return api.Item{Text: strings.Trim(t.text, quotationMark), Line: t.line}
}

// numberWithin parses a number, of any number of digits, that must be within limits.
func (p *parser) numberWithin(least, greatest int) int {
	t := p.expectAny(numberToken)
	n, err := strconv.Atoi(t.text)
	if err != nil || n < least || n > greatest {
		p.fail(t.line, api.ErrNumber)
	}
	return n
}
