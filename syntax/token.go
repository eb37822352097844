package syntax

import (
	"strings"
)

// class is what a token is.
type class int

const (
	wrongToken class = iota // permitted nowhere
	endToken
	wordToken
	numberToken
	stringToken
	symbolToken
)

const (
	lineFeed      = '\n'
	quotationMark = "\""
	notInStrings  = quotationMark + "\n"
	symbols       = "{}(),;"
)

// token is a token of a source. The quotation marks of a string are part of its text, so that the text alone tells it from a word or a symbol.
type token struct {
	class class
	text  string
	line  int
}

// scanner divides a source into tokens.
type scanner struct {
	rest string // what is behind the tokens that have been found
	line int    // of the first byte of rest
}

// next returns the next token.
func (s *scanner) next() token {
	s.skip()
	c, size := first(s.rest)
	t := token{c, s.rest[:size], s.line}
	s.rest = s.rest[size:]
	return t
}

// skip passes over blanks and comments.
func (s *scanner) skip() {
	for s.rest != "" {
		size := 1
		switch s.rest[0] {
		case lineFeed:
			s.line++
		case ' ', '\t', '\r':
		case '#':
			size = commentSize(s.rest)
		default:
			return
		}
		s.rest = s.rest[size:]
	}
}

// commentSize returns the length of the comment with which s begins, without the line feed behind it, which counts as a line.
func commentSize(s string) int {
	if size := strings.IndexByte(s, lineFeed); size >= 0 {
		return size
	}
	return len(s)
}

// first returns the class and the length of the token with which s begins.
func first(s string) (class, int) {
	if s == "" {
		return endToken, 0
	}
	switch c := s[0]; {
	case beginsWord(c):
		return wordToken, runSize(s, continuesWord)
	case isDigit(c):
		return numberToken, runSize(s, isDigit)
	case strings.IndexByte(symbols, c) >= 0:
		return symbolToken, 1
	case c == quotationMark[0]:
		if closing := 1 + strings.IndexAny(s[1:], notInStrings); closing > 0 && s[closing] == c {
			return stringToken, closing + 1
		}
	}
	return wrongToken, 1
}

// runSize returns the number of bytes at the beginning of s that belong to a set.
func runSize(s string, belongs func(byte) bool) int {
	size := 0
	for size < len(s) && belongs(s[size]) {
		size++
	}
	return size
}

func beginsWord(c byte) bool {
	return 'a' <= c && c <= 'z' || 'A' <= c && c <= 'Z' || c == '_'
}

func continuesWord(c byte) bool {
	return beginsWord(c) || isDigit(c) || c == '-' || c == '.'
}

func isDigit(c byte) bool {
	return '0' <= c && c <= '9'
}

// isWord tells whether s as a whole is a word.
func isWord(s string) bool {
	c, size := first(s)
	return c == wordToken && size == len(s)
}

// isPlatform tells whether s as a whole can be the name of a platform.
func isPlatform(s string) bool {
	return isWord(s) && s != notPlatform
}

// isText tells whether s can be the text of a string.
func isText(s string) bool {
	return !strings.ContainsAny(s, notInStrings)
}
