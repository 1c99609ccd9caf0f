package lex

import (
	"slices"

	"chattel/api"
)

// Reader goes from token to token.
type Reader struct {
	list  []Token
	next  int
	depth int
}

// gaveUp is what a reader that can't go on panics with, for Read to tell it from all else.
type gaveUp struct{ err api.Err }

// Read: lets a function read tokens; what it gave up with.
func Read(l []Token, by func(*Reader)) (e api.Err) {
	if by == nil {
		return api.Err{}
	}
	defer func() {
		switch x := recover().(type) {
		case nil:
		case gaveUp:
			e = x.err
		default:
			panic(x)
		}
	}()
	by(&Reader{list: slices.Clone(l)}) // a copy: by may keep the reader, but the list is its owner's
	return api.Err{}
}

// Peek: the next token; behind the last one an end at its place.
func (r *Reader) Peek() Token {
	if r == nil || len(r.list) == 0 {
		return Token{}
	}
	if r.next == len(r.list) {
		return Token{Kind: End, At: r.list[r.next-1].At}
	}
	return r.list[r.next]
}

// At: where the next token stands.
func (r *Reader) At() api.Pos { return r.Peek().At }

// Fail gives up at the next token.
func (r *Reader) Fail(e api.Errno) { panic(gaveUp{api.Err{Code: e, At: r.At()}}) }

// Next: the next token; it is taken, if it is no end.
func (r *Reader) Next() Token {
	t := r.Peek()
	if t.Kind != End {
		r.next++
	}
	return t
}

// Sees: is the next token this mark, or this word?
func (r *Reader) Sees(text string) bool {
	t := r.Peek()
	return t.Text == text && (t.Kind == Mark || t.Kind == Name && Word(text))
}

// Is: likewise; then it is taken.
func (r *Reader) Is(text string) bool {
	if !r.Sees(text) {
		return false
	}
	r.Next()
	return true
}

// Need takes these marks and words; else it gives up.
func (r *Reader) Need(l ...string) {
	for _, text := range l {
		if !r.Is(text) {
			r.Fail(api.Syntax)
		}
	}
}

// Name: a name, that is no word; else it gives up.
func (r *Reader) Name() string {
	t := r.Peek()
	if t.Kind != Name || Word(t.Text) {
		r.Fail(api.Syntax)
	}
	r.Next()
	return t.Text
}

// Deep lets a function read what nests one deeper; too deep, it gives up.
func (r *Reader) Deep(by func()) {
	if r == nil || by == nil {
		return
	}
	if r.depth == api.MaxDepth {
		r.Fail(api.Limit)
	}
	r.depth++
	defer func() { r.depth-- }() // also where by gives up, and someone catches that
	by()
}
