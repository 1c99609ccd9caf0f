// Package lex is layer 1: a text's tokens, and a reader of them.
package lex

import (
	"slices"
	"strings"

	"chattel/api"
)

// Kinds of tokens.
const (
	End   = 0
	Name  = 1
	Life  = 2
	Int   = 3
	Float = 4
	Mark  = 5
)

// Token is one: its kind, its text, where it begins, and of a number what it is.
type Token struct {
	Kind int
	Text string
	At   api.Pos
	Val  uint64
}

// Word: is a text one of the words that are no names?
func Word(s string) bool {
	switch s {
	case "struct", "trait", "impl", "for", "fn", "where", "let", "if", "else", "while", "return", "abort",
		"true", "false", "mut", "dyn", "int", "bool", "f64", "self", "Box", "unbox", "choose", "new", "as":
		return true
	}
	return false
}

// Put: texts, a blank between each two.
func Put(l ...string) string { return strings.Join(l, " ") }

// All: the tokens of a text, at last one that is its end.
func All(s string) ([]Token, api.Err) {
	if len(s) > api.MaxText {
		return nil, api.Err{Code: api.Limit}
	}
	var l []Token
	c := cursor{rest: s, at: api.Pos{Line: 1, Col: 1}}
	for {
		c.skip()
		if c.rest == "" {
			return append(l, Token{Kind: End, At: c.at}), api.Err{}
		}
		if len(l) == api.MaxTokens {
			return nil, api.Err{Code: api.Limit, At: c.at}
		}
		t, e := first(c.rest)
		if e != api.OK {
			return nil, api.Err{Code: e, At: c.at}
		}
		t.At = c.at
		l = append(l, t)
		c.pass(len(t.Text))
	}
}

// cursor is what is left of a text, and where that begins.
type cursor struct {
	rest string
	at   api.Pos
}

// pass goes on by n bytes.
func (c *cursor) pass(n int) {
	for i := range n {
		c.at.Col++
		if c.rest[i] == '\n' {
			c.at = api.Pos{Line: c.at.Line + 1, Col: 1}
		}
	}
	c.rest = c.rest[n:]
}

// skip passes what may stand between tokens.
func (c *cursor) skip() {
	for {
		n := span(c.rest, blank)
		if strings.HasPrefix(c.rest, "//") {
			n = span(c.rest, func(b byte) bool { return b != '\n' })
		}
		if n == 0 {
			return
		}
		c.pass(n)
	}
}

// span is how many bytes at a text's beginning are of a kind.
func span(s string, of func(byte) bool) int {
	n := 0
	for n < len(s) && of(s[n]) {
		n++
	}
	return n
}

func blank(b byte) bool { return b == ' ' || b == '\t' || b == '\n' || b == '\r' }

func small(b byte) bool { return 'a' <= b && b <= 'z' }

func letter(b byte) bool { return small(b) || 'A' <= b && b <= 'Z' || b == '_' }

func digit(b byte) bool { return '0' <= b && b <= '9' }

func inner(b byte) bool { return letter(b) || digit(b) }

// first is the token with which a text begins that isn't empty.
func first(s string) (Token, api.Errno) {
	switch {
	case letter(s[0]):
		return name(s[:span(s, inner)])
	case digit(s[0]):
		return number(s[:span(s, inner)])
	case s[0] == '\'':
		return life(s)
	}
	return mark(s)
}

func name(s string) (Token, api.Errno) {
	if len(s) > api.MaxName {
		return Token{}, api.Limit
	}
	return Token{Kind: Name, Text: s}, api.OK
}

func life(s string) (Token, api.Errno) {
	n := span(s[1:], inner)
	switch {
	case n == 0 || !small(s[1]):
		return Token{}, api.Syntax
	case n > api.MaxName:
		return Token{}, api.Limit
	}
	return Token{Kind: Life, Text: s[:n+1]}, api.OK
}

// mark looks for the longer marks first, so that the longest one is found.
func mark(s string) (Token, api.Errno) {
	marks := []string{"->", "==", "&&", "(", ")", "{", "}", "<", ">", ",", ";", ":", "=", "&", "|", "+", "-", "*", "/", "!", "."}
	i := slices.IndexFunc(marks, func(m string) bool { return strings.HasPrefix(s, m) })
	if i < 0 {
		return Token{}, api.Syntax
	}
	return Token{Kind: Mark, Text: marks[i]}, api.OK
}

// floatLen is how many bytes a Float has: 0f, and 16 digits.
const floatLen = 18

func number(s string) (Token, api.Errno) {
	kind, read := Int, whole
	if len(s) == floatLen && strings.HasPrefix(s, "0f") {
		kind, read = Float, bits
	}
	v, e := read(s)
	if e != api.OK {
		return Token{}, e
	}
	return Token{Kind: kind, Text: s, Val: v}, api.OK
}

// bits: 0f, and digits, base 16.
func bits(s string) (uint64, api.Errno) {
	v := uint64(0)
	for i := 2; i < len(s); i++ {
		switch b := s[i]; {
		case digit(b):
			v = v<<4 | uint64(b-'0')
		case 'a' <= b && b <= 'f':
			v = v<<4 | uint64(b-'a'+10)
		default:
			return 0, api.Syntax
		}
	}
	return v, api.OK
}

const (
	maxInt    = 1<<63 - 1
	maxDigits = 19 // with one more the number would wrap ahead of its being held against maxInt
)

// whole: decimal digits.
func whole(s string) (uint64, api.Errno) {
	v := uint64(0)
	for i := range len(s) {
		if !digit(s[i]) || i == 1 && s[0] == '0' {
			return 0, api.Syntax
		}
		if i == maxDigits {
			return 0, api.Limit
		}
		v = v*10 + uint64(s[i]-'0')
		if v > maxInt {
			return 0, api.Limit
		}
	}
	return v, api.OK
}
